/-
  One step of the reference's Put of layer 11: a list of lists, and a beginning of the word behind it, in new memory; its order is open.
-/
import Derived.Test.YtemalidanjfmkaaCOu
import Derived.Test.YtemalidanjfmkaaOInv
import Derived.Test.YtemalidanjfmkaaK27
import Derived.Test.YtemalidanjfmkaaESReg
namespace Go.Proofs.Ytemalidanjfmkaa
set_option linter.unusedVariables false
open Go.RowKit

def pf0 : Oper := { dst := some 103, op := Op.buildSlice 32 0 #[], type := 32, pos := "ref.go:98", after := #[], guard := none }
def pf1 : Oper := { dst := some 104, op := Op.move (Operand.tmp 13), type := 32, pos := "ref.go:98", after := #[], guard := none }
def pf2 : Oper := { dst := some 105, op := Op.call { callee := Callee.builtin Builtin.append, args := #[Operand.tmp 103, Operand.tmp 104], argTypes := #[32, 32] }, type := 32, pos := "ref.go:98", after := #[{ on := 0, ground := Ground.data }, { on := 1, ground := Ground.data }], guard := none }
def pf3 : Oper := { dst := some 106, op := Op.buildSlice 29 0 #[], type := 29, pos := "ref.go:98", after := #[], guard := none }
def pf4 : Oper := { dst := some 107, op := Op.move (Operand.tmp 1), type := 29, pos := "ref.go:98", after := #[], guard := none }
def pf5 : Oper := { dst := some 108, op := Op.move (Operand.tmp 14), type := 3, pos := "ref.go:98", after := #[], guard := none }
def pf6 : Oper := { dst := some 109, op := Op.slice 29 (Operand.tmp 107) none (some (Operand.tmp 108)) none, type := 29, pos := "ref.go:98", after := #[{ on := 4, ground := Ground.data }, { on := 5, ground := Ground.data }], guard := none }
def pf7 : Oper := { dst := some 110, op := Op.call { callee := Callee.builtin Builtin.append, args := #[Operand.tmp 106, Operand.tmp 109], argTypes := #[29, 29] }, type := 29, pos := "ref.go:98", after := #[{ on := 3, ground := Ground.data }, { on := 6, ground := Ground.data }, { on := 2, ground := Ground.chain }], guard := none }
def pf8 : Oper := { dst := some 111, op := Op.buildSlice 32 1 #[(0, Operand.tmp 110)], type := 32, pos := "ref.go:98", after := #[{ on := 7, ground := Ground.data }], guard := none }
def pf9 : Oper := { dst := some 112, op := Op.call { callee := Callee.builtin Builtin.append, args := #[Operand.tmp 105, Operand.tmp 111], argTypes := #[32, 32] }, type := 32, pos := "ref.go:98", after := #[{ on := 2, ground := Ground.data }, { on := 8, ground := Ground.data }, { on := 7, ground := Ground.chain }], guard := none }
def pf10 : Oper := { dst := some 13, op := Op.assign (Operand.tmp 112), type := 32, pos := "ref.go:98", after := #[{ on := 9, ground := Ground.data }, { on := 9, ground := Ground.chain }, { on := 0, ground := Ground.phase }, { on := 1, ground := Ground.phase }, { on := 2, ground := Ground.phase }, { on := 3, ground := Ground.phase }, { on := 4, ground := Ground.phase }, { on := 5, ground := Ground.phase }, { on := 6, ground := Ground.phase }, { on := 7, ground := Ground.phase }, { on := 8, ground := Ground.phase }, { on := 9, ground := Ground.phase }], guard := none }
def pfOps : Array Oper := #[pf0, pf1, pf2, pf3, pf4, pf5, pf6, pf7, pf8, pf9, pf10]

theorem run_cut {a : Act} {X : World} {ao : Option Addr} {n I c : Nat} (d0 : a.eval (.tmp 107) = .slice ao n c) (d1 : a.eval (.tmp 108) = .int .i64 (I : Int)) (hI : I ≤ c) (hc : c ≤ maxLen) (hna : ao = none → I = 0 ∧ c = 0) : (execOp a.eval pf6).run Try.prog X = .ok (.value (.slice ao I c)) X := by
  have h1 : (I : Int) ≤ (c : Int) := by omega
  have h2 : (c : Int) ≤ 9223372036854775807 := by unfold maxLen at hc; omega
  cases ao with
  | none =>
    obtain ⟨rfl, rfl⟩ := hna rfl
    simp [execOp, pf6, d0, d1]
    go_simp
  | some ad =>
    simp [execOp, pf6, d0, d1]
    go_simp
theorem run_lit0 {w : World} : (Instr.buildSlice 32 0 #[]).run Try.prog w = .ok (.slice (some ⟨w.heap.size, 0, none⟩) 0 0) (w.alloc (.cells #[] 29)) := by
  go_simp
theorem run_lit1 {w : World} : (Instr.buildSlice 29 0 #[]).run Try.prog w = .ok (.slice (some ⟨w.heap.size, 0, none⟩) 0 0) (w.alloc (.cells #[] 3)) := by
  go_simp
theorem run_lit2 {w : World} {ao : Option Addr} {n c : Nat} : (Instr.buildSlice 32 1 #[(0, .slice ao n c)]).run Try.prog w = .ok (.slice (some ⟨w.heap.size, 0, none⟩) 1 1) (w.alloc (.cells #[.slice ao n c] 29)) := by
  go_simp
/-- What each operation yields. -/
def PT (N : Nat) (afr : Addr) (cf : Nat) (fr : List La) (a : Option Addr) (c : Nat) (vl : List Int) (I : Nat) : Nat → Value → World → Prop
  | 0, v, W => ∃ g, v = .slice (some ⟨g, 0, none⟩) 0 0 ∧ N ≤ g ∧ W.heap[g]? = some (.cells #[] 29 (0, 0))
  | 1, v, _ => v = .slice (some afr) fr.length cf
  | 2, v, W => OwnU W N v fr
  | 3, v, W => ∃ g, v = .slice (some ⟨g, 0, none⟩) 0 0 ∧ N ≤ g ∧ W.heap[g]? = some (.cells #[] 3 (0, 0))
  | 4, v, _ => v = .slice a vl.length c
  | 5, v, _ => v = .int .i64 (I : Int)
  | 6, v, _ => v = .slice a I c
  | 7, v, W => OwnL .i64 3 W N v (vl.take I)
  | _, v, W => ∃ g u, v = .slice (some ⟨g, 0, none⟩) 1 1 ∧ W.cell? ⟨g, 0, none⟩ = some u ∧ OwnL .i64 3 W N u (vl.take I)
section
variable {N : Nat} {afr : Addr} {cf : Nat} {fr : List La} {a : Option Addr} {c : Nat} {vl : List Int} {I : Nat}
theorem PT.below {v : Value} {W W' : World} (hb : Below W.heap.size W W') : ∀ {i : Nat}, PT N afr cf fr a c vl I i v W → PT N afr cf fr a c vl I i v W'
  | 0, ⟨g, e, h1, h2⟩ => ⟨g, e, h1, (hb.block g ((Array.getElem?_eq_some_iff.1 h2).1)).trans h2⟩
  | 1, h => h
  | 2, h => OwnU.grown h hb
  | 3, ⟨g, e, h1, h2⟩ => ⟨g, e, h1, (hb.block g ((Array.getElem?_eq_some_iff.1 h2).1)).trans h2⟩
  | 4, h => h
  | 5, h => h
  | 6, h => h
  | 7, h => OwnL.grown h hb
  | _ + 8, ⟨g, u, e, h1, h2⟩ => ⟨g, u, e, (hb.cell (World.block_lt_of_cell? W _ h1)).trans h1, OwnL.grown h2 hb⟩
/-- What holds when some have come. -/
structure PJ (a0 : Act) (W0 : World) (N : Nat) (afr : Addr) (cf : Nat) (fr : List La) (a : Option Addr) (c : Nat) (vl : List Int) (I : Nat) (D : Nat → Bool) (x : Act) (W : World) : Prop where
  sz : x.tmps.size = a0.tmps.size
  df : x.defers = a0.defers
  ag : ∀ t : Nat, t < 103 ∨ 112 < t → t ≠ 13 → x.eval (.tmp t) = a0.eval (.tmp t)
  s13 : D 10 = false → x.eval (.tmp 13) = a0.eval (.tmp 13)
  lo : Below W0.heap.size W0 W
  vs : D 9 = false → ∀ i, i < 9 → D i = true → PT N afr cf fr a c vl I i (x.eval (.tmp (103 + i))) W
  r9 : D 9 = true → ∃ y, OwnU W N (x.eval (.tmp 112)) (fr ++ [y]) ∧ y.l = vl.take I ∧ ∀ q, y.a = some q → N ≤ q.block
  r10 : D 10 = true → ∃ y, OwnU W N (x.eval (.tmp 13)) (fr ++ [y]) ∧ y.l = vl.take I ∧ ∀ q, y.a = some q → N ≤ q.block
theorem pf_all {D : Nat → Bool} (cl : ClsD pfOps D) (h : D 9 = true) : ∀ i, i < 9 → D i = true := by
  have h2 : D 2 = true := cl 9 pf9 rfl h ⟨2, .data⟩ (by simp [pf9]) rfl
  have h8 : D 8 = true := cl 9 pf9 rfl h ⟨8, .data⟩ (by simp [pf9]) rfl
  have h7 : D 7 = true := cl 8 pf8 rfl h8 ⟨7, .data⟩ (by simp [pf8]) rfl
  have h3 : D 3 = true := cl 7 pf7 rfl h7 ⟨3, .data⟩ (by simp [pf7]) rfl
  have h6 : D 6 = true := cl 7 pf7 rfl h7 ⟨6, .data⟩ (by simp [pf7]) rfl
  have h4 : D 4 = true := cl 6 pf6 rfl h6 ⟨4, .data⟩ (by simp [pf6]) rfl
  have h5 : D 5 = true := cl 6 pf6 rfl h6 ⟨5, .data⟩ (by simp [pf6]) rfl
  have h0 : D 0 = true := cl 2 pf2 rfl h2 ⟨0, .data⟩ (by simp [pf2]) rfl
  have h1 : D 1 = true := cl 2 pf2 rfl h2 ⟨1, .data⟩ (by simp [pf2]) rfl
  intro i hi
  rcases (by omega : i = 0 ∨ i = 1 ∨ i = 2 ∨ i = 3 ∨ i = 4 ∨ i = 5 ∨ i = 6 ∨ i = 7 ∨ i = 8) with rfl | rfl | rfl | rfl | rfl | rfl | rfl | rfl | rfl <;> assumption
theorem pf_ten {D : Nat → Bool} (cl : ClsD pfOps D) (h : D 10 = true) : D 9 = true := cl 10 pf10 rfl h ⟨9, .data⟩ (by simp [pf10]) rfl
theorem PJ.step {a0 x : Act} {W0 W W' : World} {D : Nat → Bool} (E : PJ a0 W0 N afr cf fr a c vl I D x W) (hs0 : a0.tmps.size = 142) {j : Nat} (hj : j < 9) (h9 : D 9 = false) (h10 : D 10 = false) (v : Value) (hb : Below W.heap.size W W') (hT : PT N afr cf fr a c vl I j v W') :
    PJ a0 W0 N afr cf fr a c vl I (fun k => decide (k = j) || D k) (x.put (some (103 + j)) v) W' := by
  have hsz : 103 + j < x.tmps.size := by rw [E.sz, hs0]; omega
  refine ⟨by rw [← E.sz]; simp [Act.put], E.df, fun t ht h13 => ?_, fun _ => ?_, E.lo.trans (hb.mono E.lo.size), fun _ i hi hd => ?_, fun q => ?_, fun q => ?_⟩
  · rw [ev_neZ (by omega)]; exact E.ag t ht h13
  · rw [ev_neZ (by omega)]; exact E.s13 h10
  · by_cases e : i = j
    · subst e; rw [ev_sameZ hsz]; exact hT
    · rw [ev_neZ (by omega)]
      exact (E.vs h9 i hi (by simpa [e] using hd)).below hb
  · exfalso
    have : (decide (9 = j) || D 9) = true := q
    rw [h9, decide_eq_false (by omega)] at this; cases this
  · exfalso
    have : (decide (10 = j) || D 10) = true := q
    rw [h10, decide_eq_false (by omega)] at this; cases this
end
theorem pf_dep : ∀ i o, pfOps[i]? = some o → o.guard = none ∧ ∀ e ∈ o.after, Region.binds .any e = true → e.on < i := by
  intro i o ho
  have hi : i < 11 := (Array.getElem?_eq_some_iff.1 ho).1
  rcases (by omega : i = 0 ∨ i = 1 ∨ i = 2 ∨ i = 3 ∨ i = 4 ∨ i = 5 ∨ i = 6 ∨ i = 7 ∨ i = 8 ∨ i = 9 ∨ i = 10) with rfl | rfl | rfl | rfl | rfl | rfl | rfl | rfl | rfl | rfl | rfl <;> (cases ho; refine ⟨rfl, fun e he _ => ?_⟩; revert e; decide)
set_option maxRecDepth 100000 in
set_option maxHeartbeats 4000000 in
theorem pf_region {Q : Exit → Act → World → Prop} (W : World) (afr : Addr) (cf : Nat) (fr : List La) (a : Option Addr) (c : Nat) (vl : List Int) (I : Nat) (ds : List Deferred) (t0 t2 t3 t4 t5 t6 t7 t8 t9 t10 t11 t12 t15 t16 t17 t18 t19 t20 t21 t22 t23 t24 t25 t26 t27 t28 t29 t30 t31 t32 t33 t34 t35 t36 t37 t38 t39 t40 t41 t42 t43 t44 t45 t46 t47 t48 t49 t50 t51 t52 t53 t54 t55 t56 t57 t58 t59 t60 t61 t62 t63 t64 t65 t66 t67 t68 t69 t70 t71 t72 t73 t74 t75 t76 t77 t78 t79 t80 t81 t82 t83 t84 t85 t86 t87 t88 t89 t90 t91 t92 t93 t94 t95 t96 t97 t98 t99 t100 t101 t102 t103 t104 t105 t106 t107 t108 t109 t110 t111 t112 t113 t114 t115 t116 t117 t118 t119 t120 t121 t122 t123 t124 t125 t126 t127 t128 t129 t130 t131 t132 t133 t134 t135 t136 t137 t138 t139 t140 t141 : Value)
    (hfr : RdLs W (some afr) fr) (hv : RdL .i64 W a vl) (hna : a = none → vl.length = 0 ∧ c = 0) (hI : I ≤ vl.length) (hIc : vl.length ≤ c) (hcc : c ≤ maxLen) (hfl : fr.length ≤ 100000000) (hvl : vl.length ≤ 100000000)
    (fin : ∀ X (u103 u104 u105 u106 u107 u108 u109 u110 u111 u112 v : Value) (y : La), Below W.heap.size W X → OwnU X W.heap.size v (fr ++ [y]) → y.l = vl.take I → (∀ q, y.a = some q → W.heap.size ≤ q.block) → Q .normal ⟨#[t0, .slice a vl.length c, t2, t3, t4, t5, t6, t7, t8, t9, t10, t11, t12, v, .int .i64 (I : Int), t15, t16, t17, t18, t19, t20, t21, t22, t23, t24, t25, t26, t27, t28, t29, t30, t31, t32, t33, t34, t35, t36, t37, t38, t39, t40, t41, t42, t43, t44, t45, t46, t47, t48, t49, t50, t51, t52, t53, t54, t55, t56, t57, t58, t59, t60, t61, t62, t63, t64, t65, t66, t67, t68, t69, t70, t71, t72, t73, t74, t75, t76, t77, t78, t79, t80, t81, t82, t83, t84, t85, t86, t87, t88, t89, t90, t91, t92, t93, t94, t95, t96, t97, t98, t99, t100, t101, t102, u103, u104, u105, u106, u107, u108, u109, u110, u111, u112, t113, t114, t115, t116, t117, t118, t119, t120, t121, t122, t123, t124, t125, t126, t127, t128, t129, t130, t131, t132, t133, t134, t135, t136, t137, t138, t139, t140, t141], ds⟩ X) :
    (Code.region 18 pfOps true).wp Try.prog Q ⟨#[t0, .slice a vl.length c, t2, t3, t4, t5, t6, t7, t8, t9, t10, t11, t12, .slice (some afr) fr.length cf, .int .i64 (I : Int), t15, t16, t17, t18, t19, t20, t21, t22, t23, t24, t25, t26, t27, t28, t29, t30, t31, t32, t33, t34, t35, t36, t37, t38, t39, t40, t41, t42, t43, t44, t45, t46, t47, t48, t49, t50, t51, t52, t53, t54, t55, t56, t57, t58, t59, t60, t61, t62, t63, t64, t65, t66, t67, t68, t69, t70, t71, t72, t73, t74, t75, t76, t77, t78, t79, t80, t81, t82, t83, t84, t85, t86, t87, t88, t89, t90, t91, t92, t93, t94, t95, t96, t97, t98, t99, t100, t101, t102, t103, t104, t105, t106, t107, t108, t109, t110, t111, t112, t113, t114, t115, t116, t117, t118, t119, t120, t121, t122, t123, t124, t125, t126, t127, t128, t129, t130, t131, t132, t133, t134, t135, t136, t137, t138, t139, t140, t141], ds⟩ W := by
  have hlI : (vl.take I).length = I := by rw [List.length_take]; omega
  obtain ⟨a0, ha0⟩ : ∃ a0 : Act, a0 = ⟨#[t0, .slice a vl.length c, t2, t3, t4, t5, t6, t7, t8, t9, t10, t11, t12, .slice (some afr) fr.length cf, .int .i64 (I : Int), t15, t16, t17, t18, t19, t20, t21, t22, t23, t24, t25, t26, t27, t28, t29, t30, t31, t32, t33, t34, t35, t36, t37, t38, t39, t40, t41, t42, t43, t44, t45, t46, t47, t48, t49, t50, t51, t52, t53, t54, t55, t56, t57, t58, t59, t60, t61, t62, t63, t64, t65, t66, t67, t68, t69, t70, t71, t72, t73, t74, t75, t76, t77, t78, t79, t80, t81, t82, t83, t84, t85, t86, t87, t88, t89, t90, t91, t92, t93, t94, t95, t96, t97, t98, t99, t100, t101, t102, t103, t104, t105, t106, t107, t108, t109, t110, t111, t112, t113, t114, t115, t116, t117, t118, t119, t120, t121, t122, t123, t124, t125, t126, t127, t128, t129, t130, t131, t132, t133, t134, t135, t136, t137, t138, t139, t140, t141], ds⟩ := ⟨_, rfl⟩
  have g1 : a0.eval (.tmp 1) = .slice a vl.length c := by rw [ha0]; rfl
  have g13 : a0.eval (.tmp 13) = .slice (some afr) fr.length cf := by rw [ha0]; rfl
  have g14 : a0.eval (.tmp 14) = .int .i64 (I : Int) := by rw [ha0]; rfl
  have hs0 : a0.tmps.size = 142 := by rw [ha0]; rfl
  rw [← ha0]
  refine wp_region_inv (by kernel_rfl) a0 W 11 rfl (PJ a0 W W.heap.size afr cf fr a c vl I) pf_dep ?_ ?_ ?_
  · exact ⟨rfl, rfl, fun _ _ _ => rfl, fun _ => rfl, Below.drew (Below.refl _ _), (fun _ i _ h => by cases h), (fun h => by cases h), (fun h => by cases h)⟩
  · intro j o ho D x X cl hD haft E
    have hj : j < 11 := (Array.getElem?_eq_some_iff.1 ho).1
    have r := Below.refl X.heap.size X
    have hN : W.heap.size ≤ X.heap.size := E.lo.size
    by_cases hj9 : j < 9
    · have h9 : D 9 = false := by
        cases h : D 9 with
        | false => rfl
        | true => rw [pf_all cl h j hj9] at hD; cases hD
      have h10 : D 10 = false := by
        cases h : D 10 with
        | false => rfl
        | true => rw [pf_ten cl h] at h9; cases h9
      have e1 : x.eval (.tmp 1) = .slice a vl.length c := (E.ag 1 (by omega) (by omega)).trans g1
      have e13 : x.eval (.tmp 13) = .slice (some afr) fr.length cf := (E.s13 h10).trans g13
      have e14 : x.eval (.tmp 14) = .int .i64 (I : Int) := (E.ag 14 (by omega) (by omega)).trans g14
      have S := fun v X' hb hT => E.step (W' := X') hs0 hj9 h9 h10 v hb hT
      have T := fun i (hi : i < 9) (hd : D i = true) => E.vs h9 i hi hd
      rcases (by omega : j = 0 ∨ j = 1 ∨ j = 2 ∨ j = 3 ∨ j = 4 ∨ j = 5 ∨ j = 6 ∨ j = 7 ∨ j = 8) with rfl | rfl | rfl | rfl | rfl | rfl | rfl | rfl | rfl
      · obtain rfl : pf0 = o := Option.some.inj ho
        refine wp_valueZ (v := .slice (some ⟨X.heap.size, 0, none⟩) 0 0) (w' := X.alloc (.cells #[] 29)) ?_ (S _ _ (ballo _ _) ⟨_, rfl, hN, heap_alloc_new _ _⟩)
        simp [execOp, pf0, run_lit0]
      · obtain rfl : pf1 = o := Option.some.inj ho
        exact wp_valueZ (v := .slice (some afr) fr.length cf) (w' := X) (by simp [execOp, pf1, e13]) (S _ _ r rfl)
      · obtain rfl : pf2 = o := Option.some.inj ho
        obtain ⟨g, d0, hg1, hg2⟩ := T 0 (by omega) (haft ⟨0, .data⟩ (by simp [pf2]) rfl)
        have d1 := T 1 (by omega) (haft ⟨1, .data⟩ (by simp [pf2]) rfl)
        change x.eval (.tmp 103) = _ at d0
        change x.eval (.tmp 104) = _ at d1
        obtain ⟨i, z, hi, hz, hs, hzs, hby⟩ := info_S
        have hr := hfr.below E.lo
        obtain ⟨v', X', hrun, r1, r2⟩ := run_app0 (w := X) 32 32 29 i z Try.underlying32 hi hz hs hzs hby g hg2 W.heap.size hg1 afr fr.length cf (fr.map laV) (by simp) (fun q u hq => by
          have hjm : q < fr.length := by have := (List.getElem?_eq_some_iff.1 hq).1; rwa [List.length_map] at this
          rcases hr.top with h0 | ⟨b, off, e, hc⟩
          · rw [h0] at hjm; simp at hjm
          · cases e
            rw [add_at, hc q hjm, ← hq]
            simp [hjm]) (fun u hu => by
          obtain ⟨y, -, rfl⟩ := List.mem_map.1 hu
          rfl) (by omega)
        refine wp_valueZ (v := v') (w' := X') ?_ (S _ _ r2 ⟨r1, fun y hy => (hr.row y hy).below r2, fun y hy hn q hq e => ?_⟩)
        · simp [execOp, pf2, resolve, invoke, builtin, d0, d1, hrun, Result.andThen]
        · have h3 := (hfr.row y hy).lt hn q hq
          have h4 := (World.ownsRow.lt r1 _ e).1
          omega
      · obtain rfl : pf3 = o := Option.some.inj ho
        refine wp_valueZ (v := .slice (some ⟨X.heap.size, 0, none⟩) 0 0) (w' := X.alloc (.cells #[] 3)) ?_ (S _ _ (ballo _ _) ⟨_, rfl, hN, heap_alloc_new _ _⟩)
        simp [execOp, pf3, run_lit1]
      · obtain rfl : pf4 = o := Option.some.inj ho
        exact wp_valueZ (v := .slice a vl.length c) (w' := X) (by simp [execOp, pf4, e1]) (S _ _ r rfl)
      · obtain rfl : pf5 = o := Option.some.inj ho
        exact wp_valueZ (v := .int .i64 (I : Int)) (w' := X) (by simp [execOp, pf5, e14]) (S _ _ r rfl)
      · obtain rfl : pf6 = o := Option.some.inj ho
        have d0 := T 4 (by omega) (haft ⟨4, .data⟩ (by simp [pf6]) rfl)
        have d1 := T 5 (by omega) (haft ⟨5, .data⟩ (by simp [pf6]) rfl)
        exact wp_valueZ (v := .slice a I c) (w' := X) (run_cut d0 d1 (by omega) hcc (fun e => ⟨by have := (hna e).1; omega, (hna e).2⟩)) (S _ _ r rfl)
      · obtain rfl : pf7 = o := Option.some.inj ho
        obtain ⟨g, d0, hg1, hg2⟩ := T 3 (by omega) (haft ⟨3, .data⟩ (by simp [pf7]) rfl)
        have d1 := T 6 (by omega) (haft ⟨6, .data⟩ (by simp [pf7]) rfl)
        change x.eval (.tmp 106) = _ at d0
        change x.eval (.tmp 109) = _ at d1
        obtain ⟨i, hi, hz0, hz1, hz2⟩ := info_parts eInt.info
        cases a with
        | none =>
          have hI0 : I = 0 := by have := (hna rfl).1; omega
          have hc0 : c = 0 := (hna rfl).2
          rw [hI0, hc0] at d1
          have hown : X.ownsRow W.heap.size 3 1 (.slice (some ⟨g, 0, none⟩) 0 0) 0 [] := ⟨rfl, .inr ⟨g, 0, #[], rfl, hg1, hg2, Nat.le_refl _, Nat.zero_le _, rfl, rfl⟩⟩
          have hrun := run_append_owned_none (P := Try.prog) X W.heap.size 29 29 3 i 1 eInt.und hi _ 0 [] hown
          refine wp_valueZ (v := .slice (some ⟨g, 0, none⟩) 0 0) (w' := X) ?_ (S _ _ r ?_)
          · simp [execOp, pf7, resolve, invoke, builtin, d0, d1, hrun, Result.andThen]
          · show X.ownsRow _ _ _ _ _ _
            rw [hI0, List.take_zero]; exact hown
        | some ad =>
          have hr := (hv.below E.lo).take I
          obtain ⟨v', X', hrun, r1, r2⟩ := run_app0 (w := X) 29 29 3 i (.int .i64 0) eInt.und hi hz0 hz1 rfl (by rw [hz2]; decide) g hg2 W.heap.size hg1 ad I c ((vl.take I).map (Value.int .i64)) (by rw [List.length_map, hlI]) (fun q u hq => by
            have hjm : q < (vl.take I).length := by have := (List.getElem?_eq_some_iff.1 hq).1; rwa [List.length_map] at this
            rw [map_getD hjm] at hq
            obtain ⟨b, off, e, hc⟩ := hr.at hjm
            cases e
            rw [← hq, add_at]; exact hc q hjm) (fun u hu => by
            obtain ⟨y, -, rfl⟩ := List.mem_map.1 hu
            rfl) (by omega)
          refine wp_valueZ (v := v') (w' := X') ?_ (S _ _ r2 ?_)
          · simp [execOp, pf7, resolve, invoke, builtin, d0, d1, hrun, Result.andThen]
          · show X'.ownsRow _ _ _ _ _ _
            rw [hlI]; exact r1
      · obtain rfl : pf8 = o := Option.some.inj ho
        have d0 := T 7 (by omega) (haft ⟨7, .data⟩ (by simp [pf8]) rfl)
        change OwnL .i64 3 X W.heap.size (x.eval (.tmp 110)) (vl.take I) at d0
        obtain ⟨au, cu, eu, -⟩ := d0.shape
        rw [eu] at d0
        refine wp_valueZ (v := .slice (some ⟨X.heap.size, 0, none⟩) 1 1) (w' := X.alloc (.cells #[.slice au (vl.take I).length cu] 29)) ?_ (S _ _ (ballo _ _) ⟨_, _, rfl, by simp, d0.grown (ballo _ _)⟩)
        simp only [execOp, pf8]
        simp [eu, run_lit2, Result.andThen]
    · by_cases h9j : j = 9
      · subst h9j
        obtain rfl : pf9 = o := Option.some.inj ho
        have h10 : D 10 = false := by
          cases h : D 10 with
          | false => rfl
          | true => rw [pf_ten cl h] at hD; cases hD
        have d0 : OwnU X W.heap.size (x.eval (.tmp 105)) fr := E.vs hD 2 (by omega) (haft ⟨2, .data⟩ (by simp [pf9]) rfl)
        obtain ⟨g, u, d1, hc1, hou⟩ := E.vs hD 8 (by omega) (haft ⟨8, .data⟩ (by simp [pf9]) rfl)
        change x.eval (.tmp 111) = _ at d1
        obtain ⟨au, cu, rfl, hnu, hlu, hmu, hru, hbu⟩ := hou.shape
        have hrl : RdLs X (some ⟨g, 0, none⟩) [⟨vl.take I, au, cu⟩] := ⟨.inr ⟨g, 0, rfl, fun i hi => by
          obtain rfl : i = 0 := by simpa using hi
          exact hc1⟩, fun y hy => by
          obtain rfl : y = ⟨vl.take I, au, cu⟩ := by simpa using hy
          exact ⟨hru, hnu, hlu, hmu⟩⟩
        obtain ⟨v', X', hrun, r1, r2, r3⟩ := d0.app 32 ⟨g, 0, none⟩ 1 [⟨vl.take I, au, cu⟩] hrl (fun y hy hn q hq e => by
          obtain rfl : y = ⟨vl.take I, au, cu⟩ := by simpa using hy
          rcases hou.2 with ⟨h1, h2⟩ | ⟨g2, cap2, cur2, h1, h2, h3, h4⟩
          · exact hn h2
          · cases h1
            cases hq
            rcases d0.top.2 with ⟨h5, h6⟩ | ⟨g5, cap5, cur5, h5, h6, h7, h8⟩
            · rw [h5] at e; cases e
            · rw [h5] at e
              have h9 : g5 = g2 := by simpa [Value.ownBlock] using e
              subst h9
              have := h7.symm.trans h3
              simp at this) (by simp; omega) hN
        refine wp_valueZ (v := v') (w' := X') ?_ ?_
        · have hl1 : ([⟨vl.take I, au, cu⟩] : List La).length = 1 := rfl
          rw [hl1] at hrun
          simp [execOp, pf9, resolve, invoke, builtin, d1, hrun, Result.andThen]
        · have hsz : 112 < x.tmps.size := by rw [E.sz, hs0]; omega
          refine ⟨by rw [← E.sz]; simp [Act.put, pf9], E.df, fun t ht h13 => ?_, fun _ => ?_, E.lo.trans r2, (fun q => by simp at q), fun _ => ⟨⟨vl.take I, au, cu⟩, ?_, rfl, fun q hq => (hbu q hq).1⟩, fun q => ?_⟩
          · show (x.put (some 112) v').eval _ = _
            rw [ev_neZ (by omega)]; exact E.ag t ht h13
          · show (x.put (some 112) v').eval _ = _
            rw [ev_neZ (by omega)]; exact E.s13 h10
          · show OwnU X' W.heap.size ((x.put (some 112) v').eval (.tmp 112)) _
            rw [ev_sameZ hsz]; exact r1
          · rw [h10] at q; simp at q
      · obtain rfl : j = 10 := by omega
        obtain rfl : pf10 = o := Option.some.inj ho
        obtain ⟨y, hy1, hy2, hy3⟩ := E.r9 (haft ⟨9, .data⟩ (by simp [pf10]) rfl)
        have h9 : D 9 = true := haft ⟨9, .data⟩ (by simp [pf10]) rfl
        have hsz : 13 < x.tmps.size := by rw [E.sz, hs0]; omega
        refine wp_valueZ (v := x.eval (.tmp 112)) (w' := X) (by simp [execOp, pf10]) ?_
        refine ⟨by rw [← E.sz]; simp [Act.put, pf10], E.df, fun t ht h13 => ?_, (fun q => by simp at q), E.lo, (fun q => by rw [h9] at q; simp at q), fun _ => ⟨y, ?_, hy2, hy3⟩, fun _ => ⟨y, ?_, hy2, hy3⟩⟩
        · show (x.put (some 13) _).eval _ = _
          rw [ev_neZ (by omega)]; exact E.ag t ht h13
        · show OwnU X W.heap.size ((x.put (some 13) _).eval (.tmp 112)) _
          rw [ev_neZ (by omega)]; exact hy1
        · show OwnU X W.heap.size ((x.put (some 13) _).eval (.tmp 13)) _
          rw [ev_sameZ hsz]; exact hy1
  · intro D x X hall E
    obtain ⟨y, hy1, hy2, hy3⟩ := E.r10 (hall 10 (by omega))
    have ea := act_eta x 142 (by rw [E.sz, hs0])
    have hq := fin X (x.eval (.tmp 103)) (x.eval (.tmp 104)) (x.eval (.tmp 105)) (x.eval (.tmp 106)) (x.eval (.tmp 107)) (x.eval (.tmp 108)) (x.eval (.tmp 109)) (x.eval (.tmp 110)) (x.eval (.tmp 111)) (x.eval (.tmp 112)) (x.eval (.tmp 13)) y E.lo hy1 hy2 hy3
    have hdf : x.defers = ds := by rw [E.df, ha0]
    rw [ea, hdf]

    have f0 : x.eval (.tmp 0) = t0 := (E.ag 0 (by omega) (by omega)).trans (by rw [ha0]; rfl)
    have f1 : x.eval (.tmp 1) = .slice a vl.length c := (E.ag 1 (by omega) (by omega)).trans (by rw [ha0]; rfl)
    have f2 : x.eval (.tmp 2) = t2 := (E.ag 2 (by omega) (by omega)).trans (by rw [ha0]; rfl)
    have f3 : x.eval (.tmp 3) = t3 := (E.ag 3 (by omega) (by omega)).trans (by rw [ha0]; rfl)
    have f4 : x.eval (.tmp 4) = t4 := (E.ag 4 (by omega) (by omega)).trans (by rw [ha0]; rfl)
    have f5 : x.eval (.tmp 5) = t5 := (E.ag 5 (by omega) (by omega)).trans (by rw [ha0]; rfl)
    have f6 : x.eval (.tmp 6) = t6 := (E.ag 6 (by omega) (by omega)).trans (by rw [ha0]; rfl)
    have f7 : x.eval (.tmp 7) = t7 := (E.ag 7 (by omega) (by omega)).trans (by rw [ha0]; rfl)
    have f8 : x.eval (.tmp 8) = t8 := (E.ag 8 (by omega) (by omega)).trans (by rw [ha0]; rfl)
    have f9 : x.eval (.tmp 9) = t9 := (E.ag 9 (by omega) (by omega)).trans (by rw [ha0]; rfl)
    have f10 : x.eval (.tmp 10) = t10 := (E.ag 10 (by omega) (by omega)).trans (by rw [ha0]; rfl)
    have f11 : x.eval (.tmp 11) = t11 := (E.ag 11 (by omega) (by omega)).trans (by rw [ha0]; rfl)
    have f12 : x.eval (.tmp 12) = t12 := (E.ag 12 (by omega) (by omega)).trans (by rw [ha0]; rfl)
    have f14 : x.eval (.tmp 14) = .int .i64 (I : Int) := (E.ag 14 (by omega) (by omega)).trans (by rw [ha0]; rfl)
    have f15 : x.eval (.tmp 15) = t15 := (E.ag 15 (by omega) (by omega)).trans (by rw [ha0]; rfl)
    have f16 : x.eval (.tmp 16) = t16 := (E.ag 16 (by omega) (by omega)).trans (by rw [ha0]; rfl)
    have f17 : x.eval (.tmp 17) = t17 := (E.ag 17 (by omega) (by omega)).trans (by rw [ha0]; rfl)
    have f18 : x.eval (.tmp 18) = t18 := (E.ag 18 (by omega) (by omega)).trans (by rw [ha0]; rfl)
    have f19 : x.eval (.tmp 19) = t19 := (E.ag 19 (by omega) (by omega)).trans (by rw [ha0]; rfl)
    have f20 : x.eval (.tmp 20) = t20 := (E.ag 20 (by omega) (by omega)).trans (by rw [ha0]; rfl)
    have f21 : x.eval (.tmp 21) = t21 := (E.ag 21 (by omega) (by omega)).trans (by rw [ha0]; rfl)
    have f22 : x.eval (.tmp 22) = t22 := (E.ag 22 (by omega) (by omega)).trans (by rw [ha0]; rfl)
    have f23 : x.eval (.tmp 23) = t23 := (E.ag 23 (by omega) (by omega)).trans (by rw [ha0]; rfl)
    have f24 : x.eval (.tmp 24) = t24 := (E.ag 24 (by omega) (by omega)).trans (by rw [ha0]; rfl)
    have f25 : x.eval (.tmp 25) = t25 := (E.ag 25 (by omega) (by omega)).trans (by rw [ha0]; rfl)
    have f26 : x.eval (.tmp 26) = t26 := (E.ag 26 (by omega) (by omega)).trans (by rw [ha0]; rfl)
    have f27 : x.eval (.tmp 27) = t27 := (E.ag 27 (by omega) (by omega)).trans (by rw [ha0]; rfl)
    have f28 : x.eval (.tmp 28) = t28 := (E.ag 28 (by omega) (by omega)).trans (by rw [ha0]; rfl)
    have f29 : x.eval (.tmp 29) = t29 := (E.ag 29 (by omega) (by omega)).trans (by rw [ha0]; rfl)
    have f30 : x.eval (.tmp 30) = t30 := (E.ag 30 (by omega) (by omega)).trans (by rw [ha0]; rfl)
    have f31 : x.eval (.tmp 31) = t31 := (E.ag 31 (by omega) (by omega)).trans (by rw [ha0]; rfl)
    have f32 : x.eval (.tmp 32) = t32 := (E.ag 32 (by omega) (by omega)).trans (by rw [ha0]; rfl)
    have f33 : x.eval (.tmp 33) = t33 := (E.ag 33 (by omega) (by omega)).trans (by rw [ha0]; rfl)
    have f34 : x.eval (.tmp 34) = t34 := (E.ag 34 (by omega) (by omega)).trans (by rw [ha0]; rfl)
    have f35 : x.eval (.tmp 35) = t35 := (E.ag 35 (by omega) (by omega)).trans (by rw [ha0]; rfl)
    have f36 : x.eval (.tmp 36) = t36 := (E.ag 36 (by omega) (by omega)).trans (by rw [ha0]; rfl)
    have f37 : x.eval (.tmp 37) = t37 := (E.ag 37 (by omega) (by omega)).trans (by rw [ha0]; rfl)
    have f38 : x.eval (.tmp 38) = t38 := (E.ag 38 (by omega) (by omega)).trans (by rw [ha0]; rfl)
    have f39 : x.eval (.tmp 39) = t39 := (E.ag 39 (by omega) (by omega)).trans (by rw [ha0]; rfl)
    have f40 : x.eval (.tmp 40) = t40 := (E.ag 40 (by omega) (by omega)).trans (by rw [ha0]; rfl)
    have f41 : x.eval (.tmp 41) = t41 := (E.ag 41 (by omega) (by omega)).trans (by rw [ha0]; rfl)
    have f42 : x.eval (.tmp 42) = t42 := (E.ag 42 (by omega) (by omega)).trans (by rw [ha0]; rfl)
    have f43 : x.eval (.tmp 43) = t43 := (E.ag 43 (by omega) (by omega)).trans (by rw [ha0]; rfl)
    have f44 : x.eval (.tmp 44) = t44 := (E.ag 44 (by omega) (by omega)).trans (by rw [ha0]; rfl)
    have f45 : x.eval (.tmp 45) = t45 := (E.ag 45 (by omega) (by omega)).trans (by rw [ha0]; rfl)
    have f46 : x.eval (.tmp 46) = t46 := (E.ag 46 (by omega) (by omega)).trans (by rw [ha0]; rfl)
    have f47 : x.eval (.tmp 47) = t47 := (E.ag 47 (by omega) (by omega)).trans (by rw [ha0]; rfl)
    have f48 : x.eval (.tmp 48) = t48 := (E.ag 48 (by omega) (by omega)).trans (by rw [ha0]; rfl)
    have f49 : x.eval (.tmp 49) = t49 := (E.ag 49 (by omega) (by omega)).trans (by rw [ha0]; rfl)
    have f50 : x.eval (.tmp 50) = t50 := (E.ag 50 (by omega) (by omega)).trans (by rw [ha0]; rfl)
    have f51 : x.eval (.tmp 51) = t51 := (E.ag 51 (by omega) (by omega)).trans (by rw [ha0]; rfl)
    have f52 : x.eval (.tmp 52) = t52 := (E.ag 52 (by omega) (by omega)).trans (by rw [ha0]; rfl)
    have f53 : x.eval (.tmp 53) = t53 := (E.ag 53 (by omega) (by omega)).trans (by rw [ha0]; rfl)
    have f54 : x.eval (.tmp 54) = t54 := (E.ag 54 (by omega) (by omega)).trans (by rw [ha0]; rfl)
    have f55 : x.eval (.tmp 55) = t55 := (E.ag 55 (by omega) (by omega)).trans (by rw [ha0]; rfl)
    have f56 : x.eval (.tmp 56) = t56 := (E.ag 56 (by omega) (by omega)).trans (by rw [ha0]; rfl)
    have f57 : x.eval (.tmp 57) = t57 := (E.ag 57 (by omega) (by omega)).trans (by rw [ha0]; rfl)
    have f58 : x.eval (.tmp 58) = t58 := (E.ag 58 (by omega) (by omega)).trans (by rw [ha0]; rfl)
    have f59 : x.eval (.tmp 59) = t59 := (E.ag 59 (by omega) (by omega)).trans (by rw [ha0]; rfl)
    have f60 : x.eval (.tmp 60) = t60 := (E.ag 60 (by omega) (by omega)).trans (by rw [ha0]; rfl)
    have f61 : x.eval (.tmp 61) = t61 := (E.ag 61 (by omega) (by omega)).trans (by rw [ha0]; rfl)
    have f62 : x.eval (.tmp 62) = t62 := (E.ag 62 (by omega) (by omega)).trans (by rw [ha0]; rfl)
    have f63 : x.eval (.tmp 63) = t63 := (E.ag 63 (by omega) (by omega)).trans (by rw [ha0]; rfl)
    have f64 : x.eval (.tmp 64) = t64 := (E.ag 64 (by omega) (by omega)).trans (by rw [ha0]; rfl)
    have f65 : x.eval (.tmp 65) = t65 := (E.ag 65 (by omega) (by omega)).trans (by rw [ha0]; rfl)
    have f66 : x.eval (.tmp 66) = t66 := (E.ag 66 (by omega) (by omega)).trans (by rw [ha0]; rfl)
    have f67 : x.eval (.tmp 67) = t67 := (E.ag 67 (by omega) (by omega)).trans (by rw [ha0]; rfl)
    have f68 : x.eval (.tmp 68) = t68 := (E.ag 68 (by omega) (by omega)).trans (by rw [ha0]; rfl)
    have f69 : x.eval (.tmp 69) = t69 := (E.ag 69 (by omega) (by omega)).trans (by rw [ha0]; rfl)
    have f70 : x.eval (.tmp 70) = t70 := (E.ag 70 (by omega) (by omega)).trans (by rw [ha0]; rfl)
    have f71 : x.eval (.tmp 71) = t71 := (E.ag 71 (by omega) (by omega)).trans (by rw [ha0]; rfl)
    have f72 : x.eval (.tmp 72) = t72 := (E.ag 72 (by omega) (by omega)).trans (by rw [ha0]; rfl)
    have f73 : x.eval (.tmp 73) = t73 := (E.ag 73 (by omega) (by omega)).trans (by rw [ha0]; rfl)
    have f74 : x.eval (.tmp 74) = t74 := (E.ag 74 (by omega) (by omega)).trans (by rw [ha0]; rfl)
    have f75 : x.eval (.tmp 75) = t75 := (E.ag 75 (by omega) (by omega)).trans (by rw [ha0]; rfl)
    have f76 : x.eval (.tmp 76) = t76 := (E.ag 76 (by omega) (by omega)).trans (by rw [ha0]; rfl)
    have f77 : x.eval (.tmp 77) = t77 := (E.ag 77 (by omega) (by omega)).trans (by rw [ha0]; rfl)
    have f78 : x.eval (.tmp 78) = t78 := (E.ag 78 (by omega) (by omega)).trans (by rw [ha0]; rfl)
    have f79 : x.eval (.tmp 79) = t79 := (E.ag 79 (by omega) (by omega)).trans (by rw [ha0]; rfl)
    have f80 : x.eval (.tmp 80) = t80 := (E.ag 80 (by omega) (by omega)).trans (by rw [ha0]; rfl)
    have f81 : x.eval (.tmp 81) = t81 := (E.ag 81 (by omega) (by omega)).trans (by rw [ha0]; rfl)
    have f82 : x.eval (.tmp 82) = t82 := (E.ag 82 (by omega) (by omega)).trans (by rw [ha0]; rfl)
    have f83 : x.eval (.tmp 83) = t83 := (E.ag 83 (by omega) (by omega)).trans (by rw [ha0]; rfl)
    have f84 : x.eval (.tmp 84) = t84 := (E.ag 84 (by omega) (by omega)).trans (by rw [ha0]; rfl)
    have f85 : x.eval (.tmp 85) = t85 := (E.ag 85 (by omega) (by omega)).trans (by rw [ha0]; rfl)
    have f86 : x.eval (.tmp 86) = t86 := (E.ag 86 (by omega) (by omega)).trans (by rw [ha0]; rfl)
    have f87 : x.eval (.tmp 87) = t87 := (E.ag 87 (by omega) (by omega)).trans (by rw [ha0]; rfl)
    have f88 : x.eval (.tmp 88) = t88 := (E.ag 88 (by omega) (by omega)).trans (by rw [ha0]; rfl)
    have f89 : x.eval (.tmp 89) = t89 := (E.ag 89 (by omega) (by omega)).trans (by rw [ha0]; rfl)
    have f90 : x.eval (.tmp 90) = t90 := (E.ag 90 (by omega) (by omega)).trans (by rw [ha0]; rfl)
    have f91 : x.eval (.tmp 91) = t91 := (E.ag 91 (by omega) (by omega)).trans (by rw [ha0]; rfl)
    have f92 : x.eval (.tmp 92) = t92 := (E.ag 92 (by omega) (by omega)).trans (by rw [ha0]; rfl)
    have f93 : x.eval (.tmp 93) = t93 := (E.ag 93 (by omega) (by omega)).trans (by rw [ha0]; rfl)
    have f94 : x.eval (.tmp 94) = t94 := (E.ag 94 (by omega) (by omega)).trans (by rw [ha0]; rfl)
    have f95 : x.eval (.tmp 95) = t95 := (E.ag 95 (by omega) (by omega)).trans (by rw [ha0]; rfl)
    have f96 : x.eval (.tmp 96) = t96 := (E.ag 96 (by omega) (by omega)).trans (by rw [ha0]; rfl)
    have f97 : x.eval (.tmp 97) = t97 := (E.ag 97 (by omega) (by omega)).trans (by rw [ha0]; rfl)
    have f98 : x.eval (.tmp 98) = t98 := (E.ag 98 (by omega) (by omega)).trans (by rw [ha0]; rfl)
    have f99 : x.eval (.tmp 99) = t99 := (E.ag 99 (by omega) (by omega)).trans (by rw [ha0]; rfl)
    have f100 : x.eval (.tmp 100) = t100 := (E.ag 100 (by omega) (by omega)).trans (by rw [ha0]; rfl)
    have f101 : x.eval (.tmp 101) = t101 := (E.ag 101 (by omega) (by omega)).trans (by rw [ha0]; rfl)
    have f102 : x.eval (.tmp 102) = t102 := (E.ag 102 (by omega) (by omega)).trans (by rw [ha0]; rfl)
    have f113 : x.eval (.tmp 113) = t113 := (E.ag 113 (by omega) (by omega)).trans (by rw [ha0]; rfl)
    have f114 : x.eval (.tmp 114) = t114 := (E.ag 114 (by omega) (by omega)).trans (by rw [ha0]; rfl)
    have f115 : x.eval (.tmp 115) = t115 := (E.ag 115 (by omega) (by omega)).trans (by rw [ha0]; rfl)
    have f116 : x.eval (.tmp 116) = t116 := (E.ag 116 (by omega) (by omega)).trans (by rw [ha0]; rfl)
    have f117 : x.eval (.tmp 117) = t117 := (E.ag 117 (by omega) (by omega)).trans (by rw [ha0]; rfl)
    have f118 : x.eval (.tmp 118) = t118 := (E.ag 118 (by omega) (by omega)).trans (by rw [ha0]; rfl)
    have f119 : x.eval (.tmp 119) = t119 := (E.ag 119 (by omega) (by omega)).trans (by rw [ha0]; rfl)
    have f120 : x.eval (.tmp 120) = t120 := (E.ag 120 (by omega) (by omega)).trans (by rw [ha0]; rfl)
    have f121 : x.eval (.tmp 121) = t121 := (E.ag 121 (by omega) (by omega)).trans (by rw [ha0]; rfl)
    have f122 : x.eval (.tmp 122) = t122 := (E.ag 122 (by omega) (by omega)).trans (by rw [ha0]; rfl)
    have f123 : x.eval (.tmp 123) = t123 := (E.ag 123 (by omega) (by omega)).trans (by rw [ha0]; rfl)
    have f124 : x.eval (.tmp 124) = t124 := (E.ag 124 (by omega) (by omega)).trans (by rw [ha0]; rfl)
    have f125 : x.eval (.tmp 125) = t125 := (E.ag 125 (by omega) (by omega)).trans (by rw [ha0]; rfl)
    have f126 : x.eval (.tmp 126) = t126 := (E.ag 126 (by omega) (by omega)).trans (by rw [ha0]; rfl)
    have f127 : x.eval (.tmp 127) = t127 := (E.ag 127 (by omega) (by omega)).trans (by rw [ha0]; rfl)
    have f128 : x.eval (.tmp 128) = t128 := (E.ag 128 (by omega) (by omega)).trans (by rw [ha0]; rfl)
    have f129 : x.eval (.tmp 129) = t129 := (E.ag 129 (by omega) (by omega)).trans (by rw [ha0]; rfl)
    have f130 : x.eval (.tmp 130) = t130 := (E.ag 130 (by omega) (by omega)).trans (by rw [ha0]; rfl)
    have f131 : x.eval (.tmp 131) = t131 := (E.ag 131 (by omega) (by omega)).trans (by rw [ha0]; rfl)
    have f132 : x.eval (.tmp 132) = t132 := (E.ag 132 (by omega) (by omega)).trans (by rw [ha0]; rfl)
    have f133 : x.eval (.tmp 133) = t133 := (E.ag 133 (by omega) (by omega)).trans (by rw [ha0]; rfl)
    have f134 : x.eval (.tmp 134) = t134 := (E.ag 134 (by omega) (by omega)).trans (by rw [ha0]; rfl)
    have f135 : x.eval (.tmp 135) = t135 := (E.ag 135 (by omega) (by omega)).trans (by rw [ha0]; rfl)
    have f136 : x.eval (.tmp 136) = t136 := (E.ag 136 (by omega) (by omega)).trans (by rw [ha0]; rfl)
    have f137 : x.eval (.tmp 137) = t137 := (E.ag 137 (by omega) (by omega)).trans (by rw [ha0]; rfl)
    have f138 : x.eval (.tmp 138) = t138 := (E.ag 138 (by omega) (by omega)).trans (by rw [ha0]; rfl)
    have f139 : x.eval (.tmp 139) = t139 := (E.ag 139 (by omega) (by omega)).trans (by rw [ha0]; rfl)
    have f140 : x.eval (.tmp 140) = t140 := (E.ag 140 (by omega) (by omega)).trans (by rw [ha0]; rfl)
    have f141 : x.eval (.tmp 141) = t141 := (E.ag 141 (by omega) (by omega)).trans (by rw [ha0]; rfl)
    rw [← f0, ← f2, ← f3, ← f4, ← f5, ← f6, ← f7, ← f8, ← f9, ← f10, ← f11, ← f12, ← f15, ← f16, ← f17, ← f18, ← f19, ← f20, ← f21, ← f22, ← f23, ← f24, ← f25, ← f26, ← f27, ← f28, ← f29, ← f30, ← f31, ← f32, ← f33, ← f34, ← f35, ← f36, ← f37, ← f38, ← f39, ← f40, ← f41, ← f42, ← f43, ← f44, ← f45, ← f46, ← f47, ← f48, ← f49, ← f50, ← f51, ← f52, ← f53, ← f54, ← f55, ← f56, ← f57, ← f58, ← f59, ← f60, ← f61, ← f62, ← f63, ← f64, ← f65, ← f66, ← f67, ← f68, ← f69, ← f70, ← f71, ← f72, ← f73, ← f74, ← f75, ← f76, ← f77, ← f78, ← f79, ← f80, ← f81, ← f82, ← f83, ← f84, ← f85, ← f86, ← f87, ← f88, ← f89, ← f90, ← f91, ← f92, ← f93, ← f94, ← f95, ← f96, ← f97, ← f98, ← f99, ← f100, ← f101, ← f102, ← f113, ← f114, ← f115, ← f116, ← f117, ← f118, ← f119, ← f120, ← f121, ← f122, ← f123, ← f124, ← f125, ← f126, ← f127, ← f128, ← f129, ← f130, ← f131, ← f132, ← f133, ← f134, ← f135, ← f136, ← f137, ← f138, ← f139, ← f140, ← f141] at hq
    rw [← f1, ← f14] at hq
    exact hq

end Go.Proofs.Ytemalidanjfmkaa
