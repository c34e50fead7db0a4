/-
  A statement of the law CachePlays whose order is open.
-/
import Derived.Test.YtemalidanjfmkaaKRegH
namespace Go.Proofs.Ytemalidanjfmkaa
set_option linter.unusedVariables false
open Go.RowKit


def kb0 : Oper := { dst := some 132, op := Op.load 34 (Operand.tmp 13), type := 34, pos := "law.go:76", after := #[], guard := none }
def kb1 : Oper := { dst := some 133, op := Op.move (Operand.tmp 4), type := 22, pos := "law.go:76", after := #[], guard := none }
def kb2 : Oper := { dst := some 134, op := Op.move (Operand.tmp 15), type := 3, pos := "law.go:76", after := #[], guard := none }
def kb3 : Oper := { dst := some 135, op := Op.indexAddr 22 (Operand.tmp 133) (Operand.tmp 134), type := 0, pos := "law.go:76", after := #[{ on := 1, ground := Ground.data }, { on := 2, ground := Ground.data }], guard := none }
def kb4 : Oper := { dst := some 136, op := Op.fieldAddr 40 (Operand.tmp 135) 1, type := 0, pos := "law.go:76", after := #[{ on := 3, ground := Ground.data }], guard := none }
def kb5 : Oper := { dst := some 137, op := Op.load 29 (Operand.tmp 136), type := 29, pos := "law.go:76", after := #[{ on := 4, ground := Ground.data }], guard := none }
def kb6 : Oper := { dst := some 138, op := Op.call { callee := Callee.value (Operand.func 18), args := #[Operand.tmp 132, Operand.tmp 137], argTypes := #[34, 29] }, type := 43, pos := "law.go:76", after := #[{ on := 0, ground := Ground.data }, { on := 5, ground := Ground.data }], guard := none }
def kb7 : Oper := { dst := some 131, op := Op.move (Operand.tmp 138), type := 43, pos := "law.go:76", after := #[{ on := 6, ground := Ground.data }], guard := none }
def kb8 : Oper := { dst := some 139, op := Op.extract (Operand.tmp 131) 0, type := 29, pos := "law.go:76", after := #[{ on := 7, ground := Ground.data }], guard := none }
def kb9 : Oper := { dst := some 140, op := Op.extract (Operand.tmp 131) 1, type := 4, pos := "law.go:76", after := #[{ on := 7, ground := Ground.data }, { on := 10, ground := Ground.gcOnly Departure.lateStores }], guard := none }
def kb10 : Oper := { dst := some 23, op := Op.assign (Operand.tmp 139), type := 29, pos := "law.go:76", after := #[{ on := 8, ground := Ground.data }, { on := 6, ground := Ground.chain }, { on := 0, ground := Ground.phase }, { on := 1, ground := Ground.phase }, { on := 2, ground := Ground.phase }, { on := 3, ground := Ground.phase }, { on := 4, ground := Ground.phase }, { on := 5, ground := Ground.phase }, { on := 6, ground := Ground.phase }, { on := 7, ground := Ground.phase }, { on := 8, ground := Ground.phase }, { on := 9, ground := Ground.textOnly Departure.lateStores }], guard := none }
def kb11 : Oper := { dst := some 24, op := Op.assign (Operand.tmp 140), type := 4, pos := "law.go:76", after := #[{ on := 9, ground := Ground.data }, { on := 10, ground := Ground.chain }, { on := 0, ground := Ground.phase }, { on := 1, ground := Ground.phase }, { on := 2, ground := Ground.phase }, { on := 3, ground := Ground.phase }, { on := 4, ground := Ground.phase }, { on := 5, ground := Ground.phase }, { on := 6, ground := Ground.phase }, { on := 7, ground := Ground.phase }, { on := 8, ground := Ground.phase }, { on := 9, ground := Ground.phase }, { on := 10, ground := Ground.phase }], guard := none }
def kbOps : Array Oper := #[kb0, kb1, kb2, kb3, kb4, kb5, kb6, kb7, kb8, kb9, kb10, kb11]

def kbT (lb loff L cl t db : Nat) (p : Cv) (a1 : Option Addr) (c1 : Nat) (wd : List Int) : Nat → Value → World → Prop
  | 0, v, _ => v = cvV p
  | 1, v, _ => v = .slice (some ⟨lb, loff, none⟩) L cl
  | 2, v, _ => v = .int .i64 (t : Int)
  | 3, v, _ => v = .pointer (some ⟨lb, loff + t * 3, none⟩)
  | 4, v, _ => v = .pointer (some ⟨lb, loff + t * 3 + 1, none⟩)
  | 5, v, _ => v = .slice a1 wd.length c1
  | 6, v, W => ∃ x : La, v = .tuple #[laV x, .bool (findV p.cs wd).isSome] ∧ x.l = (findV p.cs wd).getD [] ∧ LaOk W x ∧ Src p x
  | 7, v, W => ∃ x : La, v = .tuple #[laV x, .bool (findV p.cs wd).isSome] ∧ x.l = (findV p.cs wd).getD [] ∧ LaOk W x ∧ Src p x
  | 8, v, W => ∃ x : La, v = laV x ∧ x.l = (findV p.cs wd).getD [] ∧ LaOk W x ∧ Src p x
  | 9, v, _ => v = .bool (findV p.cs wd).isSome
  | 10, v, W => ∃ x : La, v = laV x ∧ x.l = (findV p.cs wd).getD [] ∧ LaOk W x ∧ Src p x
  | 11, v, _ => v = .bool (findV p.cs wd).isSome
  | _, _, _ => True
theorem kbT_below (lb loff L cl t db : Nat) (p : Cv) (a1 : Option Addr) (c1 : Nat) (wd : List Int) {v : Value} {W W' : World} (hb : Below W.heap.size W W') : ∀ {i : Nat}, kbT lb loff L cl t db p a1 c1 wd i v W → kbT lb loff L cl t db p a1 c1 wd i v W'
  | 0, h => h
  | 1, h => h
  | 2, h => h
  | 3, h => h
  | 4, h => h
  | 5, h => h
  | 6, ⟨x, e, h1, h2, h3⟩ => ⟨x, e, h1, h2.below hb, h3⟩
  | 7, ⟨x, e, h1, h2, h3⟩ => ⟨x, e, h1, h2.below hb, h3⟩
  | 8, ⟨x, e, h1, h2, h3⟩ => ⟨x, e, h1, h2.below hb, h3⟩
  | 9, h => h
  | 10, ⟨x, e, h1, h2, h3⟩ => ⟨x, e, h1, h2.below hb, h3⟩
  | 11, h => h
  | _ + 12, h => h
set_option maxRecDepth 100000 in
set_option maxHeartbeats 1000000 in
theorem kb_ok : okG kbOps [132, 133, 134, 135, 136, 137, 138, 131, 139, 140, 23, 24] = true := by kernel_rfl
set_option maxRecDepth 100000 in
set_option maxHeartbeats 8000000 in
theorem kb_core {Q : Exit → Act → World → Prop} (W : World) (lb loff L cl t db : Nat) (p : Cv) (a1 : Option Addr) (c1 : Nat) (wd : List Int) (a0 : Act) (hs0 : a0.tmps.size = 207) (eY4 : a0.eval (.tmp 4) = .slice (some ⟨lb, loff, none⟩) L cl) (eY13 : a0.eval (.tmp 13) = .pointer (some ⟨db, 0, none⟩)) (eY15 : a0.eval (.tmp 15) = .int .i64 (t : Int))
    (hI : t < L) (hcb : Cb W db p) (hc1 : W.cell? ⟨lb, loff + t * 3 + 1, none⟩ = some (.slice a1 wd.length c1)) (hr : RdC W p) (hv : RdL .i64 W a1 wd) (hl : wd.length ≤ maxLen)
    (fin : ∀ a X, EInv a0 W 12 (fun i => [132, 133, 134, 135, 136, 137, 138, 131, 139, 140, 23, 24].getD i 0) (kbT lb loff L cl t db p a1 c1 wd) (fun _ => True) a X → Q .normal a X) :
    (Code.region 27 kbOps true).wp Try.prog Q a0 W := by
  refine wp_region_guard (by kernel_rfl) a0 W 12 (fun i => [132, 133, 134, 135, 136, 137, 138, 131, 139, 140, 23, 24].getD i 0) (kbT lb loff L cl t db p a1 c1 wd) rfl (fun _ _ _ _ h hb => kbT_below lb loff L cl t db p a1 c1 wd hb h) (by decide) (fun i hi => by rw [hs0]; exact (show ∀ i, i < 12 → [132, 133, 134, 135, 136, 137, 138, 131, 139, 140, 23, 24].getD i 0 < 207 by decide) i hi) (hdG_of kb_ok) ?_ fin
  intro j o ho a X E haft KK hKK
  have hj : j < 12 := (Array.getElem?_eq_some_iff.1 ho).1
  have hsz : a.tmps.size = 207 := E.sz.trans hs0
  have fY4 : a.eval (.tmp 4) = .slice (some ⟨lb, loff, none⟩) L cl := (E.ag 4 (by decide)).trans eY4
  have fY13 : a.eval (.tmp 13) = .pointer (some ⟨db, 0, none⟩) := (E.ag 13 (by decide)).trans eY13
  have fY15 : a.eval (.tmp 15) = .int .i64 (t : Int) := (E.ag 15 (by decide)).trans eY15
  have r := Below.refl X.heap.size X
  have bl := E.bl
  clear E fin
  rcases (by omega : j = 0 ∨ j = 1 ∨ j = 2 ∨ j = 3 ∨ j = 4 ∨ j = 5 ∨ j = 6 ∨ j = 7 ∨ j = 8 ∨ j = 9 ∨ j = 10 ∨ j = 11) with rfl | rfl | rfl | rfl | rfl | rfl | rfl | rfl | rfl | rfl | rfl | rfl
  · obtain rfl : kb0 = o := Option.some.inj ho
    refine wpOp_on ho (wanted_none rfl) ?_
    have q := hcb.below bl
    exact wp_valueZ (v := cvV p) (w' := X) (by simp [execOp, kb0, fY13, ldC q]) (hKK _ _ r rfl)
  · obtain rfl : kb1 = o := Option.some.inj ho
    refine wpOp_on ho (wanted_none rfl) ?_
    exact wp_valueZ (v := .slice (some ⟨lb, loff, none⟩) L cl) (w' := X) (by simp [execOp, kb1, fY4]) (hKK _ _ r rfl)
  · obtain rfl : kb2 = o := Option.some.inj ho
    refine wpOp_on ho (wanted_none rfl) ?_
    exact wp_valueZ (v := .int .i64 (t : Int)) (w' := X) (by simp [execOp, kb2, fY15]) (hKK _ _ r rfl)
  · obtain rfl : kb3 = o := Option.some.inj ho
    refine wpOp_on ho (wanted_none rfl) ?_
    have d0 : a.eval (.tmp 133) = .slice (some ⟨lb, loff, none⟩) L cl := haft ⟨1, .data⟩ (by simp [kb3]) rfl
    have d1 : a.eval (.tmp 134) = .int .i64 (t : Int) := haft ⟨2, .data⟩ (by simp [kb3]) rfl
    exact wp_valueZ (v := .pointer (some ⟨lb, loff + t * 3, none⟩)) (w' := X) (by simp [execOp, kb3, d0, d1, idxC hI]) (hKK _ _ r rfl)
  · obtain rfl : kb4 = o := Option.some.inj ho
    refine wpOp_on ho (wanted_none rfl) ?_
    have d0 : a.eval (.tmp 135) = .pointer (some ⟨lb, loff + t * 3, none⟩) := haft ⟨3, .data⟩ (by simp [kb4]) rfl
    exact wp_valueZ (v := .pointer (some ⟨lb, loff + t * 3 + 1, none⟩)) (w' := X) (by simp [execOp, kb4, d0, fldC1]) (hKK _ _ r rfl)
  · obtain rfl : kb5 = o := Option.some.inj ho
    refine wpOp_on ho (wanted_none rfl) ?_
    have d0 : a.eval (.tmp 136) = .pointer (some ⟨lb, loff + t * 3 + 1, none⟩) := haft ⟨4, .data⟩ (by simp [kb5]) rfl
    have q := (bl.cell (World.block_lt_of_cell? W _ hc1)).trans hc1
    exact wp_valueZ (v := .slice a1 wd.length c1) (w' := X) (by simp [execOp, kb5, d0, ldS q]) (hKK _ _ r rfl)
  · obtain rfl : kb6 = o := Option.some.inj ho
    refine wpOp_on ho (wanted_none rfl) ?_
    have d0 := haft ⟨0, .data⟩ (by simp [kb6]) rfl
    have d1 := haft ⟨5, .data⟩ (by simp [kb6]) rfl
    refine wp_enterZ (run_call2Z rfl (enters_of Try.func18 (by kernel_rfl) rfl) d0 d1) (rfindS_any p a1 c1 wd X (hr.below bl) (hv.below bl) hl) ?_
    rintro e X' ⟨x, rfl, h1, h2, h3, hb⟩
    exact ⟨_, rfl, hKK _ _ hb ⟨x, rfl, h1, h2, h3⟩⟩
  · obtain rfl : kb7 = o := Option.some.inj ho
    refine wpOp_on ho (wanted_none rfl) ?_
    obtain ⟨x, d0, h1, h2, h3⟩ := haft ⟨6, .data⟩ (by simp [kb7]) rfl
    exact wp_valueZ (w' := X) (by simp [execOp, kb7]) (hKK _ _ r ⟨x, d0, h1, h2, h3⟩)
  · obtain rfl : kb8 = o := Option.some.inj ho
    refine wpOp_on ho (wanted_none rfl) ?_
    obtain ⟨x, d0, h1, h2, h3⟩ := haft ⟨7, .data⟩ (by simp [kb8]) rfl
    change a.eval (.tmp 131) = _ at d0
    exact wp_valueZ (v := laV x) (w' := X) (by simp [execOp, kb8, d0]; go_simp) (hKK _ _ r ⟨x, rfl, h1, h2, h3⟩)
  · obtain rfl : kb9 = o := Option.some.inj ho
    refine wpOp_on ho (wanted_none rfl) ?_
    obtain ⟨x, d0, h1, h2, h3⟩ := haft ⟨7, .data⟩ (by simp [kb9]) rfl
    change a.eval (.tmp 131) = _ at d0
    exact wp_valueZ (v := .bool (findV p.cs wd).isSome) (w' := X) (by simp [execOp, kb9, d0]; go_simp) (hKK _ _ r rfl)
  · obtain rfl : kb10 = o := Option.some.inj ho
    refine wpOp_on ho (wanted_none rfl) ?_
    obtain ⟨x, d0, h1, h2, h3⟩ := haft ⟨8, .data⟩ (by simp [kb10]) rfl
    exact wp_valueZ (w' := X) (by simp [execOp, kb10]) (hKK _ _ r ⟨x, d0, h1, h2, h3⟩)
  · obtain rfl : kb11 = o := Option.some.inj ho
    refine wpOp_on ho (wanted_none rfl) ?_
    have d0 : a.eval (.tmp 140) = .bool (findV p.cs wd).isSome := haft ⟨9, .data⟩ (by simp [kb11]) rfl
    exact wp_valueZ (v := .bool (findV p.cs wd).isSome) (w' := X) (by simp [execOp, kb11, d0]) (hKK _ _ r rfl)
set_option maxRecDepth 100000 in
set_option maxHeartbeats 8000000 in
theorem kb_region {Q : Exit → Act → World → Prop} (W : World) (lb loff L cl t db : Nat) (p : Cv) (a1 : Option Addr) (c1 : Nat) (wd : List Int) (ds : List Deferred) (t0 t1 t2 t3 t5 t6 t7 t8 t9 t10 t11 t12 t14 t16 t17 t18 t19 t20 t21 t22 t23 t24 t25 t26 t27 t28 t29 t30 t31 t32 t33 t34 t35 t36 t37 t38 t39 t40 t41 t42 t43 t44 t45 t46 t47 t48 t49 t50 t51 t52 t53 t54 t55 t56 t57 t58 t59 t60 t61 t62 t63 t64 t65 t66 t67 t68 t69 t70 t71 t72 t73 t74 t75 t76 t77 t78 t79 t80 t81 t82 t83 t84 t85 t86 t87 t88 t89 t90 t91 t92 t93 t94 t95 t96 t97 t98 t99 t100 t101 t102 t103 t104 t105 t106 t107 t108 t109 t110 t111 t112 t113 t114 t115 t116 t117 t118 t119 t120 t121 t122 t123 t124 t125 t126 t127 t128 t129 t130 t131 t132 t133 t134 t135 t136 t137 t138 t139 t140 t141 t142 t143 t144 t145 t146 t147 t148 t149 t150 t151 t152 t153 t154 t155 t156 t157 t158 t159 t160 t161 t162 t163 t164 t165 t166 t167 t168 t169 t170 t171 t172 t173 t174 t175 t176 t177 t178 t179 t180 t181 t182 t183 t184 t185 t186 t187 t188 t189 t190 t191 t192 t193 t194 t195 t196 t197 t198 t199 t200 t201 t202 t203 t204 t205 t206 : Value)
    (hI : t < L) (hcb : Cb W db p) (hc1 : W.cell? ⟨lb, loff + t * 3 + 1, none⟩ = some (.slice a1 wd.length c1)) (hr : RdC W p) (hv : RdL .i64 W a1 wd) (hl : wd.length ≤ maxLen)
    (fin : ∀ X (u132 u133 u134 u135 u136 u137 u138 u131 u139 u140 u23 : Value), Below W.heap.size W X → (∃ x : La, u23 = laV x ∧ x.l = (findV p.cs wd).getD [] ∧ LaOk X x ∧ Src p x) → Q .normal ⟨#[t0, t1, t2, t3, .slice (some ⟨lb, loff, none⟩) L cl, t5, t6, t7, t8, t9, t10, t11, t12, .pointer (some ⟨db, 0, none⟩), t14, .int .i64 (t : Int), t16, t17, t18, t19, t20, t21, t22, u23, .bool (findV p.cs wd).isSome, t25, t26, t27, t28, t29, t30, t31, t32, t33, t34, t35, t36, t37, t38, t39, t40, t41, t42, t43, t44, t45, t46, t47, t48, t49, t50, t51, t52, t53, t54, t55, t56, t57, t58, t59, t60, t61, t62, t63, t64, t65, t66, t67, t68, t69, t70, t71, t72, t73, t74, t75, t76, t77, t78, t79, t80, t81, t82, t83, t84, t85, t86, t87, t88, t89, t90, t91, t92, t93, t94, t95, t96, t97, t98, t99, t100, t101, t102, t103, t104, t105, t106, t107, t108, t109, t110, t111, t112, t113, t114, t115, t116, t117, t118, t119, t120, t121, t122, t123, t124, t125, t126, t127, t128, t129, t130, u131, u132, u133, u134, u135, u136, u137, u138, u139, u140, t141, t142, t143, t144, t145, t146, t147, t148, t149, t150, t151, t152, t153, t154, t155, t156, t157, t158, t159, t160, t161, t162, t163, t164, t165, t166, t167, t168, t169, t170, t171, t172, t173, t174, t175, t176, t177, t178, t179, t180, t181, t182, t183, t184, t185, t186, t187, t188, t189, t190, t191, t192, t193, t194, t195, t196, t197, t198, t199, t200, t201, t202, t203, t204, t205, t206], ds⟩ X) :
    (Code.region 27 kbOps true).wp Try.prog Q ⟨#[t0, t1, t2, t3, .slice (some ⟨lb, loff, none⟩) L cl, t5, t6, t7, t8, t9, t10, t11, t12, .pointer (some ⟨db, 0, none⟩), t14, .int .i64 (t : Int), t16, t17, t18, t19, t20, t21, t22, t23, t24, t25, t26, t27, t28, t29, t30, t31, t32, t33, t34, t35, t36, t37, t38, t39, t40, t41, t42, t43, t44, t45, t46, t47, t48, t49, t50, t51, t52, t53, t54, t55, t56, t57, t58, t59, t60, t61, t62, t63, t64, t65, t66, t67, t68, t69, t70, t71, t72, t73, t74, t75, t76, t77, t78, t79, t80, t81, t82, t83, t84, t85, t86, t87, t88, t89, t90, t91, t92, t93, t94, t95, t96, t97, t98, t99, t100, t101, t102, t103, t104, t105, t106, t107, t108, t109, t110, t111, t112, t113, t114, t115, t116, t117, t118, t119, t120, t121, t122, t123, t124, t125, t126, t127, t128, t129, t130, t131, t132, t133, t134, t135, t136, t137, t138, t139, t140, t141, t142, t143, t144, t145, t146, t147, t148, t149, t150, t151, t152, t153, t154, t155, t156, t157, t158, t159, t160, t161, t162, t163, t164, t165, t166, t167, t168, t169, t170, t171, t172, t173, t174, t175, t176, t177, t178, t179, t180, t181, t182, t183, t184, t185, t186, t187, t188, t189, t190, t191, t192, t193, t194, t195, t196, t197, t198, t199, t200, t201, t202, t203, t204, t205, t206], ds⟩ W := by
  obtain ⟨a0, ha0⟩ : ∃ a0 : Act, a0 = ⟨#[t0, t1, t2, t3, .slice (some ⟨lb, loff, none⟩) L cl, t5, t6, t7, t8, t9, t10, t11, t12, .pointer (some ⟨db, 0, none⟩), t14, .int .i64 (t : Int), t16, t17, t18, t19, t20, t21, t22, t23, t24, t25, t26, t27, t28, t29, t30, t31, t32, t33, t34, t35, t36, t37, t38, t39, t40, t41, t42, t43, t44, t45, t46, t47, t48, t49, t50, t51, t52, t53, t54, t55, t56, t57, t58, t59, t60, t61, t62, t63, t64, t65, t66, t67, t68, t69, t70, t71, t72, t73, t74, t75, t76, t77, t78, t79, t80, t81, t82, t83, t84, t85, t86, t87, t88, t89, t90, t91, t92, t93, t94, t95, t96, t97, t98, t99, t100, t101, t102, t103, t104, t105, t106, t107, t108, t109, t110, t111, t112, t113, t114, t115, t116, t117, t118, t119, t120, t121, t122, t123, t124, t125, t126, t127, t128, t129, t130, t131, t132, t133, t134, t135, t136, t137, t138, t139, t140, t141, t142, t143, t144, t145, t146, t147, t148, t149, t150, t151, t152, t153, t154, t155, t156, t157, t158, t159, t160, t161, t162, t163, t164, t165, t166, t167, t168, t169, t170, t171, t172, t173, t174, t175, t176, t177, t178, t179, t180, t181, t182, t183, t184, t185, t186, t187, t188, t189, t190, t191, t192, t193, t194, t195, t196, t197, t198, t199, t200, t201, t202, t203, t204, t205, t206], ds⟩ := ⟨_, rfl⟩
  have hs0 : a0.tmps.size = 207 := by rw [ha0]; rfl
  have hd0 : a0.defers = ds := by rw [ha0]
  have gY0 : a0.eval (.tmp 0) = t0 := by rw [ha0]; rfl
  have gY1 : a0.eval (.tmp 1) = t1 := by rw [ha0]; rfl
  have gY2 : a0.eval (.tmp 2) = t2 := by rw [ha0]; rfl
  have gY3 : a0.eval (.tmp 3) = t3 := by rw [ha0]; rfl
  have gY4 : a0.eval (.tmp 4) = .slice (some ⟨lb, loff, none⟩) L cl := by rw [ha0]; rfl
  have gY5 : a0.eval (.tmp 5) = t5 := by rw [ha0]; rfl
  have gY6 : a0.eval (.tmp 6) = t6 := by rw [ha0]; rfl
  have gY7 : a0.eval (.tmp 7) = t7 := by rw [ha0]; rfl
  have gY8 : a0.eval (.tmp 8) = t8 := by rw [ha0]; rfl
  have gY9 : a0.eval (.tmp 9) = t9 := by rw [ha0]; rfl
  have gY10 : a0.eval (.tmp 10) = t10 := by rw [ha0]; rfl
  have gY11 : a0.eval (.tmp 11) = t11 := by rw [ha0]; rfl
  have gY12 : a0.eval (.tmp 12) = t12 := by rw [ha0]; rfl
  have gY13 : a0.eval (.tmp 13) = .pointer (some ⟨db, 0, none⟩) := by rw [ha0]; rfl
  have gY14 : a0.eval (.tmp 14) = t14 := by rw [ha0]; rfl
  have gY15 : a0.eval (.tmp 15) = .int .i64 (t : Int) := by rw [ha0]; rfl
  have gY16 : a0.eval (.tmp 16) = t16 := by rw [ha0]; rfl
  have gY17 : a0.eval (.tmp 17) = t17 := by rw [ha0]; rfl
  have gY18 : a0.eval (.tmp 18) = t18 := by rw [ha0]; rfl
  have gY19 : a0.eval (.tmp 19) = t19 := by rw [ha0]; rfl
  have gY20 : a0.eval (.tmp 20) = t20 := by rw [ha0]; rfl
  have gY21 : a0.eval (.tmp 21) = t21 := by rw [ha0]; rfl
  have gY22 : a0.eval (.tmp 22) = t22 := by rw [ha0]; rfl
  have gY25 : a0.eval (.tmp 25) = t25 := by rw [ha0]; rfl
  have gY26 : a0.eval (.tmp 26) = t26 := by rw [ha0]; rfl
  have gY27 : a0.eval (.tmp 27) = t27 := by rw [ha0]; rfl
  have gY28 : a0.eval (.tmp 28) = t28 := by rw [ha0]; rfl
  have gY29 : a0.eval (.tmp 29) = t29 := by rw [ha0]; rfl
  have gY30 : a0.eval (.tmp 30) = t30 := by rw [ha0]; rfl
  have gY31 : a0.eval (.tmp 31) = t31 := by rw [ha0]; rfl
  have gY32 : a0.eval (.tmp 32) = t32 := by rw [ha0]; rfl
  have gY33 : a0.eval (.tmp 33) = t33 := by rw [ha0]; rfl
  have gY34 : a0.eval (.tmp 34) = t34 := by rw [ha0]; rfl
  have gY35 : a0.eval (.tmp 35) = t35 := by rw [ha0]; rfl
  have gY36 : a0.eval (.tmp 36) = t36 := by rw [ha0]; rfl
  have gY37 : a0.eval (.tmp 37) = t37 := by rw [ha0]; rfl
  have gY38 : a0.eval (.tmp 38) = t38 := by rw [ha0]; rfl
  have gY39 : a0.eval (.tmp 39) = t39 := by rw [ha0]; rfl
  have gY40 : a0.eval (.tmp 40) = t40 := by rw [ha0]; rfl
  have gY41 : a0.eval (.tmp 41) = t41 := by rw [ha0]; rfl
  have gY42 : a0.eval (.tmp 42) = t42 := by rw [ha0]; rfl
  have gY43 : a0.eval (.tmp 43) = t43 := by rw [ha0]; rfl
  have gY44 : a0.eval (.tmp 44) = t44 := by rw [ha0]; rfl
  have gY45 : a0.eval (.tmp 45) = t45 := by rw [ha0]; rfl
  have gY46 : a0.eval (.tmp 46) = t46 := by rw [ha0]; rfl
  have gY47 : a0.eval (.tmp 47) = t47 := by rw [ha0]; rfl
  have gY48 : a0.eval (.tmp 48) = t48 := by rw [ha0]; rfl
  have gY49 : a0.eval (.tmp 49) = t49 := by rw [ha0]; rfl
  have gY50 : a0.eval (.tmp 50) = t50 := by rw [ha0]; rfl
  have gY51 : a0.eval (.tmp 51) = t51 := by rw [ha0]; rfl
  have gY52 : a0.eval (.tmp 52) = t52 := by rw [ha0]; rfl
  have gY53 : a0.eval (.tmp 53) = t53 := by rw [ha0]; rfl
  have gY54 : a0.eval (.tmp 54) = t54 := by rw [ha0]; rfl
  have gY55 : a0.eval (.tmp 55) = t55 := by rw [ha0]; rfl
  have gY56 : a0.eval (.tmp 56) = t56 := by rw [ha0]; rfl
  have gY57 : a0.eval (.tmp 57) = t57 := by rw [ha0]; rfl
  have gY58 : a0.eval (.tmp 58) = t58 := by rw [ha0]; rfl
  have gY59 : a0.eval (.tmp 59) = t59 := by rw [ha0]; rfl
  have gY60 : a0.eval (.tmp 60) = t60 := by rw [ha0]; rfl
  have gY61 : a0.eval (.tmp 61) = t61 := by rw [ha0]; rfl
  have gY62 : a0.eval (.tmp 62) = t62 := by rw [ha0]; rfl
  have gY63 : a0.eval (.tmp 63) = t63 := by rw [ha0]; rfl
  have gY64 : a0.eval (.tmp 64) = t64 := by rw [ha0]; rfl
  have gY65 : a0.eval (.tmp 65) = t65 := by rw [ha0]; rfl
  have gY66 : a0.eval (.tmp 66) = t66 := by rw [ha0]; rfl
  have gY67 : a0.eval (.tmp 67) = t67 := by rw [ha0]; rfl
  have gY68 : a0.eval (.tmp 68) = t68 := by rw [ha0]; rfl
  have gY69 : a0.eval (.tmp 69) = t69 := by rw [ha0]; rfl
  have gY70 : a0.eval (.tmp 70) = t70 := by rw [ha0]; rfl
  have gY71 : a0.eval (.tmp 71) = t71 := by rw [ha0]; rfl
  have gY72 : a0.eval (.tmp 72) = t72 := by rw [ha0]; rfl
  have gY73 : a0.eval (.tmp 73) = t73 := by rw [ha0]; rfl
  have gY74 : a0.eval (.tmp 74) = t74 := by rw [ha0]; rfl
  have gY75 : a0.eval (.tmp 75) = t75 := by rw [ha0]; rfl
  have gY76 : a0.eval (.tmp 76) = t76 := by rw [ha0]; rfl
  have gY77 : a0.eval (.tmp 77) = t77 := by rw [ha0]; rfl
  have gY78 : a0.eval (.tmp 78) = t78 := by rw [ha0]; rfl
  have gY79 : a0.eval (.tmp 79) = t79 := by rw [ha0]; rfl
  have gY80 : a0.eval (.tmp 80) = t80 := by rw [ha0]; rfl
  have gY81 : a0.eval (.tmp 81) = t81 := by rw [ha0]; rfl
  have gY82 : a0.eval (.tmp 82) = t82 := by rw [ha0]; rfl
  have gY83 : a0.eval (.tmp 83) = t83 := by rw [ha0]; rfl
  have gY84 : a0.eval (.tmp 84) = t84 := by rw [ha0]; rfl
  have gY85 : a0.eval (.tmp 85) = t85 := by rw [ha0]; rfl
  have gY86 : a0.eval (.tmp 86) = t86 := by rw [ha0]; rfl
  have gY87 : a0.eval (.tmp 87) = t87 := by rw [ha0]; rfl
  have gY88 : a0.eval (.tmp 88) = t88 := by rw [ha0]; rfl
  have gY89 : a0.eval (.tmp 89) = t89 := by rw [ha0]; rfl
  have gY90 : a0.eval (.tmp 90) = t90 := by rw [ha0]; rfl
  have gY91 : a0.eval (.tmp 91) = t91 := by rw [ha0]; rfl
  have gY92 : a0.eval (.tmp 92) = t92 := by rw [ha0]; rfl
  have gY93 : a0.eval (.tmp 93) = t93 := by rw [ha0]; rfl
  have gY94 : a0.eval (.tmp 94) = t94 := by rw [ha0]; rfl
  have gY95 : a0.eval (.tmp 95) = t95 := by rw [ha0]; rfl
  have gY96 : a0.eval (.tmp 96) = t96 := by rw [ha0]; rfl
  have gY97 : a0.eval (.tmp 97) = t97 := by rw [ha0]; rfl
  have gY98 : a0.eval (.tmp 98) = t98 := by rw [ha0]; rfl
  have gY99 : a0.eval (.tmp 99) = t99 := by rw [ha0]; rfl
  have gY100 : a0.eval (.tmp 100) = t100 := by rw [ha0]; rfl
  have gY101 : a0.eval (.tmp 101) = t101 := by rw [ha0]; rfl
  have gY102 : a0.eval (.tmp 102) = t102 := by rw [ha0]; rfl
  have gY103 : a0.eval (.tmp 103) = t103 := by rw [ha0]; rfl
  have gY104 : a0.eval (.tmp 104) = t104 := by rw [ha0]; rfl
  have gY105 : a0.eval (.tmp 105) = t105 := by rw [ha0]; rfl
  have gY106 : a0.eval (.tmp 106) = t106 := by rw [ha0]; rfl
  have gY107 : a0.eval (.tmp 107) = t107 := by rw [ha0]; rfl
  have gY108 : a0.eval (.tmp 108) = t108 := by rw [ha0]; rfl
  have gY109 : a0.eval (.tmp 109) = t109 := by rw [ha0]; rfl
  have gY110 : a0.eval (.tmp 110) = t110 := by rw [ha0]; rfl
  have gY111 : a0.eval (.tmp 111) = t111 := by rw [ha0]; rfl
  have gY112 : a0.eval (.tmp 112) = t112 := by rw [ha0]; rfl
  have gY113 : a0.eval (.tmp 113) = t113 := by rw [ha0]; rfl
  have gY114 : a0.eval (.tmp 114) = t114 := by rw [ha0]; rfl
  have gY115 : a0.eval (.tmp 115) = t115 := by rw [ha0]; rfl
  have gY116 : a0.eval (.tmp 116) = t116 := by rw [ha0]; rfl
  have gY117 : a0.eval (.tmp 117) = t117 := by rw [ha0]; rfl
  have gY118 : a0.eval (.tmp 118) = t118 := by rw [ha0]; rfl
  have gY119 : a0.eval (.tmp 119) = t119 := by rw [ha0]; rfl
  have gY120 : a0.eval (.tmp 120) = t120 := by rw [ha0]; rfl
  have gY121 : a0.eval (.tmp 121) = t121 := by rw [ha0]; rfl
  have gY122 : a0.eval (.tmp 122) = t122 := by rw [ha0]; rfl
  have gY123 : a0.eval (.tmp 123) = t123 := by rw [ha0]; rfl
  have gY124 : a0.eval (.tmp 124) = t124 := by rw [ha0]; rfl
  have gY125 : a0.eval (.tmp 125) = t125 := by rw [ha0]; rfl
  have gY126 : a0.eval (.tmp 126) = t126 := by rw [ha0]; rfl
  have gY127 : a0.eval (.tmp 127) = t127 := by rw [ha0]; rfl
  have gY128 : a0.eval (.tmp 128) = t128 := by rw [ha0]; rfl
  have gY129 : a0.eval (.tmp 129) = t129 := by rw [ha0]; rfl
  have gY130 : a0.eval (.tmp 130) = t130 := by rw [ha0]; rfl
  have gY141 : a0.eval (.tmp 141) = t141 := by rw [ha0]; rfl
  have gY142 : a0.eval (.tmp 142) = t142 := by rw [ha0]; rfl
  have gY143 : a0.eval (.tmp 143) = t143 := by rw [ha0]; rfl
  have gY144 : a0.eval (.tmp 144) = t144 := by rw [ha0]; rfl
  have gY145 : a0.eval (.tmp 145) = t145 := by rw [ha0]; rfl
  have gY146 : a0.eval (.tmp 146) = t146 := by rw [ha0]; rfl
  have gY147 : a0.eval (.tmp 147) = t147 := by rw [ha0]; rfl
  have gY148 : a0.eval (.tmp 148) = t148 := by rw [ha0]; rfl
  have gY149 : a0.eval (.tmp 149) = t149 := by rw [ha0]; rfl
  have gY150 : a0.eval (.tmp 150) = t150 := by rw [ha0]; rfl
  have gY151 : a0.eval (.tmp 151) = t151 := by rw [ha0]; rfl
  have gY152 : a0.eval (.tmp 152) = t152 := by rw [ha0]; rfl
  have gY153 : a0.eval (.tmp 153) = t153 := by rw [ha0]; rfl
  have gY154 : a0.eval (.tmp 154) = t154 := by rw [ha0]; rfl
  have gY155 : a0.eval (.tmp 155) = t155 := by rw [ha0]; rfl
  have gY156 : a0.eval (.tmp 156) = t156 := by rw [ha0]; rfl
  have gY157 : a0.eval (.tmp 157) = t157 := by rw [ha0]; rfl
  have gY158 : a0.eval (.tmp 158) = t158 := by rw [ha0]; rfl
  have gY159 : a0.eval (.tmp 159) = t159 := by rw [ha0]; rfl
  have gY160 : a0.eval (.tmp 160) = t160 := by rw [ha0]; rfl
  have gY161 : a0.eval (.tmp 161) = t161 := by rw [ha0]; rfl
  have gY162 : a0.eval (.tmp 162) = t162 := by rw [ha0]; rfl
  have gY163 : a0.eval (.tmp 163) = t163 := by rw [ha0]; rfl
  have gY164 : a0.eval (.tmp 164) = t164 := by rw [ha0]; rfl
  have gY165 : a0.eval (.tmp 165) = t165 := by rw [ha0]; rfl
  have gY166 : a0.eval (.tmp 166) = t166 := by rw [ha0]; rfl
  have gY167 : a0.eval (.tmp 167) = t167 := by rw [ha0]; rfl
  have gY168 : a0.eval (.tmp 168) = t168 := by rw [ha0]; rfl
  have gY169 : a0.eval (.tmp 169) = t169 := by rw [ha0]; rfl
  have gY170 : a0.eval (.tmp 170) = t170 := by rw [ha0]; rfl
  have gY171 : a0.eval (.tmp 171) = t171 := by rw [ha0]; rfl
  have gY172 : a0.eval (.tmp 172) = t172 := by rw [ha0]; rfl
  have gY173 : a0.eval (.tmp 173) = t173 := by rw [ha0]; rfl
  have gY174 : a0.eval (.tmp 174) = t174 := by rw [ha0]; rfl
  have gY175 : a0.eval (.tmp 175) = t175 := by rw [ha0]; rfl
  have gY176 : a0.eval (.tmp 176) = t176 := by rw [ha0]; rfl
  have gY177 : a0.eval (.tmp 177) = t177 := by rw [ha0]; rfl
  have gY178 : a0.eval (.tmp 178) = t178 := by rw [ha0]; rfl
  have gY179 : a0.eval (.tmp 179) = t179 := by rw [ha0]; rfl
  have gY180 : a0.eval (.tmp 180) = t180 := by rw [ha0]; rfl
  have gY181 : a0.eval (.tmp 181) = t181 := by rw [ha0]; rfl
  have gY182 : a0.eval (.tmp 182) = t182 := by rw [ha0]; rfl
  have gY183 : a0.eval (.tmp 183) = t183 := by rw [ha0]; rfl
  have gY184 : a0.eval (.tmp 184) = t184 := by rw [ha0]; rfl
  have gY185 : a0.eval (.tmp 185) = t185 := by rw [ha0]; rfl
  have gY186 : a0.eval (.tmp 186) = t186 := by rw [ha0]; rfl
  have gY187 : a0.eval (.tmp 187) = t187 := by rw [ha0]; rfl
  have gY188 : a0.eval (.tmp 188) = t188 := by rw [ha0]; rfl
  have gY189 : a0.eval (.tmp 189) = t189 := by rw [ha0]; rfl
  have gY190 : a0.eval (.tmp 190) = t190 := by rw [ha0]; rfl
  have gY191 : a0.eval (.tmp 191) = t191 := by rw [ha0]; rfl
  have gY192 : a0.eval (.tmp 192) = t192 := by rw [ha0]; rfl
  have gY193 : a0.eval (.tmp 193) = t193 := by rw [ha0]; rfl
  have gY194 : a0.eval (.tmp 194) = t194 := by rw [ha0]; rfl
  have gY195 : a0.eval (.tmp 195) = t195 := by rw [ha0]; rfl
  have gY196 : a0.eval (.tmp 196) = t196 := by rw [ha0]; rfl
  have gY197 : a0.eval (.tmp 197) = t197 := by rw [ha0]; rfl
  have gY198 : a0.eval (.tmp 198) = t198 := by rw [ha0]; rfl
  have gY199 : a0.eval (.tmp 199) = t199 := by rw [ha0]; rfl
  have gY200 : a0.eval (.tmp 200) = t200 := by rw [ha0]; rfl
  have gY201 : a0.eval (.tmp 201) = t201 := by rw [ha0]; rfl
  have gY202 : a0.eval (.tmp 202) = t202 := by rw [ha0]; rfl
  have gY203 : a0.eval (.tmp 203) = t203 := by rw [ha0]; rfl
  have gY204 : a0.eval (.tmp 204) = t204 := by rw [ha0]; rfl
  have gY205 : a0.eval (.tmp 205) = t205 := by rw [ha0]; rfl
  have gY206 : a0.eval (.tmp 206) = t206 := by rw [ha0]; rfl
  rw [← ha0]
  refine kb_core W lb loff L cl t db p a1 c1 wd a0 hs0 gY4 gY13 gY15 hI hcb hc1 hr hv hl ?_
  clear ha0
  intro a X E
  have hq := fin X (a.eval (.tmp 132)) (a.eval (.tmp 133)) (a.eval (.tmp 134)) (a.eval (.tmp 135)) (a.eval (.tmp 136)) (a.eval (.tmp 137)) (a.eval (.tmp 138)) (a.eval (.tmp 131)) (a.eval (.tmp 139)) (a.eval (.tmp 140)) (a.eval (.tmp 23)) E.bl (E.vs 10 (by decide) trivial)
  have ea : a = ⟨#[a.eval (.tmp 0), a.eval (.tmp 1), a.eval (.tmp 2), a.eval (.tmp 3), a.eval (.tmp 4), a.eval (.tmp 5), a.eval (.tmp 6), a.eval (.tmp 7), a.eval (.tmp 8), a.eval (.tmp 9), a.eval (.tmp 10), a.eval (.tmp 11), a.eval (.tmp 12), a.eval (.tmp 13), a.eval (.tmp 14), a.eval (.tmp 15), a.eval (.tmp 16), a.eval (.tmp 17), a.eval (.tmp 18), a.eval (.tmp 19), a.eval (.tmp 20), a.eval (.tmp 21), a.eval (.tmp 22), a.eval (.tmp 23), a.eval (.tmp 24), a.eval (.tmp 25), a.eval (.tmp 26), a.eval (.tmp 27), a.eval (.tmp 28), a.eval (.tmp 29), a.eval (.tmp 30), a.eval (.tmp 31), a.eval (.tmp 32), a.eval (.tmp 33), a.eval (.tmp 34), a.eval (.tmp 35), a.eval (.tmp 36), a.eval (.tmp 37), a.eval (.tmp 38), a.eval (.tmp 39), a.eval (.tmp 40), a.eval (.tmp 41), a.eval (.tmp 42), a.eval (.tmp 43), a.eval (.tmp 44), a.eval (.tmp 45), a.eval (.tmp 46), a.eval (.tmp 47), a.eval (.tmp 48), a.eval (.tmp 49), a.eval (.tmp 50), a.eval (.tmp 51), a.eval (.tmp 52), a.eval (.tmp 53), a.eval (.tmp 54), a.eval (.tmp 55), a.eval (.tmp 56), a.eval (.tmp 57), a.eval (.tmp 58), a.eval (.tmp 59), a.eval (.tmp 60), a.eval (.tmp 61), a.eval (.tmp 62), a.eval (.tmp 63), a.eval (.tmp 64), a.eval (.tmp 65), a.eval (.tmp 66), a.eval (.tmp 67), a.eval (.tmp 68), a.eval (.tmp 69), a.eval (.tmp 70), a.eval (.tmp 71), a.eval (.tmp 72), a.eval (.tmp 73), a.eval (.tmp 74), a.eval (.tmp 75), a.eval (.tmp 76), a.eval (.tmp 77), a.eval (.tmp 78), a.eval (.tmp 79), a.eval (.tmp 80), a.eval (.tmp 81), a.eval (.tmp 82), a.eval (.tmp 83), a.eval (.tmp 84), a.eval (.tmp 85), a.eval (.tmp 86), a.eval (.tmp 87), a.eval (.tmp 88), a.eval (.tmp 89), a.eval (.tmp 90), a.eval (.tmp 91), a.eval (.tmp 92), a.eval (.tmp 93), a.eval (.tmp 94), a.eval (.tmp 95), a.eval (.tmp 96), a.eval (.tmp 97), a.eval (.tmp 98), a.eval (.tmp 99), a.eval (.tmp 100), a.eval (.tmp 101), a.eval (.tmp 102), a.eval (.tmp 103), a.eval (.tmp 104), a.eval (.tmp 105), a.eval (.tmp 106), a.eval (.tmp 107), a.eval (.tmp 108), a.eval (.tmp 109), a.eval (.tmp 110), a.eval (.tmp 111), a.eval (.tmp 112), a.eval (.tmp 113), a.eval (.tmp 114), a.eval (.tmp 115), a.eval (.tmp 116), a.eval (.tmp 117), a.eval (.tmp 118), a.eval (.tmp 119), a.eval (.tmp 120), a.eval (.tmp 121), a.eval (.tmp 122), a.eval (.tmp 123), a.eval (.tmp 124), a.eval (.tmp 125), a.eval (.tmp 126), a.eval (.tmp 127), a.eval (.tmp 128), a.eval (.tmp 129), a.eval (.tmp 130), a.eval (.tmp 131), a.eval (.tmp 132), a.eval (.tmp 133), a.eval (.tmp 134), a.eval (.tmp 135), a.eval (.tmp 136), a.eval (.tmp 137), a.eval (.tmp 138), a.eval (.tmp 139), a.eval (.tmp 140), a.eval (.tmp 141), a.eval (.tmp 142), a.eval (.tmp 143), a.eval (.tmp 144), a.eval (.tmp 145), a.eval (.tmp 146), a.eval (.tmp 147), a.eval (.tmp 148), a.eval (.tmp 149), a.eval (.tmp 150), a.eval (.tmp 151), a.eval (.tmp 152), a.eval (.tmp 153), a.eval (.tmp 154), a.eval (.tmp 155), a.eval (.tmp 156), a.eval (.tmp 157), a.eval (.tmp 158), a.eval (.tmp 159), a.eval (.tmp 160), a.eval (.tmp 161), a.eval (.tmp 162), a.eval (.tmp 163), a.eval (.tmp 164), a.eval (.tmp 165), a.eval (.tmp 166), a.eval (.tmp 167), a.eval (.tmp 168), a.eval (.tmp 169), a.eval (.tmp 170), a.eval (.tmp 171), a.eval (.tmp 172), a.eval (.tmp 173), a.eval (.tmp 174), a.eval (.tmp 175), a.eval (.tmp 176), a.eval (.tmp 177), a.eval (.tmp 178), a.eval (.tmp 179), a.eval (.tmp 180), a.eval (.tmp 181), a.eval (.tmp 182), a.eval (.tmp 183), a.eval (.tmp 184), a.eval (.tmp 185), a.eval (.tmp 186), a.eval (.tmp 187), a.eval (.tmp 188), a.eval (.tmp 189), a.eval (.tmp 190), a.eval (.tmp 191), a.eval (.tmp 192), a.eval (.tmp 193), a.eval (.tmp 194), a.eval (.tmp 195), a.eval (.tmp 196), a.eval (.tmp 197), a.eval (.tmp 198), a.eval (.tmp 199), a.eval (.tmp 200), a.eval (.tmp 201), a.eval (.tmp 202), a.eval (.tmp 203), a.eval (.tmp 204), a.eval (.tmp 205), a.eval (.tmp 206)], a.defers⟩ := act_eta a 207 (E.sz.trans hs0)
  rw [ea, E.df, hd0]
  have kY0 : a.eval (.tmp 0) = t0 := (E.ag 0 (by decide)).trans gY0
  have kY1 : a.eval (.tmp 1) = t1 := (E.ag 1 (by decide)).trans gY1
  have kY2 : a.eval (.tmp 2) = t2 := (E.ag 2 (by decide)).trans gY2
  have kY3 : a.eval (.tmp 3) = t3 := (E.ag 3 (by decide)).trans gY3
  have kY4 : a.eval (.tmp 4) = .slice (some ⟨lb, loff, none⟩) L cl := (E.ag 4 (by decide)).trans gY4
  have kY5 : a.eval (.tmp 5) = t5 := (E.ag 5 (by decide)).trans gY5
  have kY6 : a.eval (.tmp 6) = t6 := (E.ag 6 (by decide)).trans gY6
  have kY7 : a.eval (.tmp 7) = t7 := (E.ag 7 (by decide)).trans gY7
  have kY8 : a.eval (.tmp 8) = t8 := (E.ag 8 (by decide)).trans gY8
  have kY9 : a.eval (.tmp 9) = t9 := (E.ag 9 (by decide)).trans gY9
  have kY10 : a.eval (.tmp 10) = t10 := (E.ag 10 (by decide)).trans gY10
  have kY11 : a.eval (.tmp 11) = t11 := (E.ag 11 (by decide)).trans gY11
  have kY12 : a.eval (.tmp 12) = t12 := (E.ag 12 (by decide)).trans gY12
  have kY13 : a.eval (.tmp 13) = .pointer (some ⟨db, 0, none⟩) := (E.ag 13 (by decide)).trans gY13
  have kY14 : a.eval (.tmp 14) = t14 := (E.ag 14 (by decide)).trans gY14
  have kY15 : a.eval (.tmp 15) = .int .i64 (t : Int) := (E.ag 15 (by decide)).trans gY15
  have kY16 : a.eval (.tmp 16) = t16 := (E.ag 16 (by decide)).trans gY16
  have kY17 : a.eval (.tmp 17) = t17 := (E.ag 17 (by decide)).trans gY17
  have kY18 : a.eval (.tmp 18) = t18 := (E.ag 18 (by decide)).trans gY18
  have kY19 : a.eval (.tmp 19) = t19 := (E.ag 19 (by decide)).trans gY19
  have kY20 : a.eval (.tmp 20) = t20 := (E.ag 20 (by decide)).trans gY20
  have kY21 : a.eval (.tmp 21) = t21 := (E.ag 21 (by decide)).trans gY21
  have kY22 : a.eval (.tmp 22) = t22 := (E.ag 22 (by decide)).trans gY22
  have kY24 : a.eval (.tmp 24) = .bool (findV p.cs wd).isSome := E.vs 11 (by decide) trivial
  have kY25 : a.eval (.tmp 25) = t25 := (E.ag 25 (by decide)).trans gY25
  have kY26 : a.eval (.tmp 26) = t26 := (E.ag 26 (by decide)).trans gY26
  have kY27 : a.eval (.tmp 27) = t27 := (E.ag 27 (by decide)).trans gY27
  have kY28 : a.eval (.tmp 28) = t28 := (E.ag 28 (by decide)).trans gY28
  have kY29 : a.eval (.tmp 29) = t29 := (E.ag 29 (by decide)).trans gY29
  have kY30 : a.eval (.tmp 30) = t30 := (E.ag 30 (by decide)).trans gY30
  have kY31 : a.eval (.tmp 31) = t31 := (E.ag 31 (by decide)).trans gY31
  have kY32 : a.eval (.tmp 32) = t32 := (E.ag 32 (by decide)).trans gY32
  have kY33 : a.eval (.tmp 33) = t33 := (E.ag 33 (by decide)).trans gY33
  have kY34 : a.eval (.tmp 34) = t34 := (E.ag 34 (by decide)).trans gY34
  have kY35 : a.eval (.tmp 35) = t35 := (E.ag 35 (by decide)).trans gY35
  have kY36 : a.eval (.tmp 36) = t36 := (E.ag 36 (by decide)).trans gY36
  have kY37 : a.eval (.tmp 37) = t37 := (E.ag 37 (by decide)).trans gY37
  have kY38 : a.eval (.tmp 38) = t38 := (E.ag 38 (by decide)).trans gY38
  have kY39 : a.eval (.tmp 39) = t39 := (E.ag 39 (by decide)).trans gY39
  have kY40 : a.eval (.tmp 40) = t40 := (E.ag 40 (by decide)).trans gY40
  have kY41 : a.eval (.tmp 41) = t41 := (E.ag 41 (by decide)).trans gY41
  have kY42 : a.eval (.tmp 42) = t42 := (E.ag 42 (by decide)).trans gY42
  have kY43 : a.eval (.tmp 43) = t43 := (E.ag 43 (by decide)).trans gY43
  have kY44 : a.eval (.tmp 44) = t44 := (E.ag 44 (by decide)).trans gY44
  have kY45 : a.eval (.tmp 45) = t45 := (E.ag 45 (by decide)).trans gY45
  have kY46 : a.eval (.tmp 46) = t46 := (E.ag 46 (by decide)).trans gY46
  have kY47 : a.eval (.tmp 47) = t47 := (E.ag 47 (by decide)).trans gY47
  have kY48 : a.eval (.tmp 48) = t48 := (E.ag 48 (by decide)).trans gY48
  have kY49 : a.eval (.tmp 49) = t49 := (E.ag 49 (by decide)).trans gY49
  have kY50 : a.eval (.tmp 50) = t50 := (E.ag 50 (by decide)).trans gY50
  have kY51 : a.eval (.tmp 51) = t51 := (E.ag 51 (by decide)).trans gY51
  have kY52 : a.eval (.tmp 52) = t52 := (E.ag 52 (by decide)).trans gY52
  have kY53 : a.eval (.tmp 53) = t53 := (E.ag 53 (by decide)).trans gY53
  have kY54 : a.eval (.tmp 54) = t54 := (E.ag 54 (by decide)).trans gY54
  have kY55 : a.eval (.tmp 55) = t55 := (E.ag 55 (by decide)).trans gY55
  have kY56 : a.eval (.tmp 56) = t56 := (E.ag 56 (by decide)).trans gY56
  have kY57 : a.eval (.tmp 57) = t57 := (E.ag 57 (by decide)).trans gY57
  have kY58 : a.eval (.tmp 58) = t58 := (E.ag 58 (by decide)).trans gY58
  have kY59 : a.eval (.tmp 59) = t59 := (E.ag 59 (by decide)).trans gY59
  have kY60 : a.eval (.tmp 60) = t60 := (E.ag 60 (by decide)).trans gY60
  have kY61 : a.eval (.tmp 61) = t61 := (E.ag 61 (by decide)).trans gY61
  have kY62 : a.eval (.tmp 62) = t62 := (E.ag 62 (by decide)).trans gY62
  have kY63 : a.eval (.tmp 63) = t63 := (E.ag 63 (by decide)).trans gY63
  have kY64 : a.eval (.tmp 64) = t64 := (E.ag 64 (by decide)).trans gY64
  have kY65 : a.eval (.tmp 65) = t65 := (E.ag 65 (by decide)).trans gY65
  have kY66 : a.eval (.tmp 66) = t66 := (E.ag 66 (by decide)).trans gY66
  have kY67 : a.eval (.tmp 67) = t67 := (E.ag 67 (by decide)).trans gY67
  have kY68 : a.eval (.tmp 68) = t68 := (E.ag 68 (by decide)).trans gY68
  have kY69 : a.eval (.tmp 69) = t69 := (E.ag 69 (by decide)).trans gY69
  have kY70 : a.eval (.tmp 70) = t70 := (E.ag 70 (by decide)).trans gY70
  have kY71 : a.eval (.tmp 71) = t71 := (E.ag 71 (by decide)).trans gY71
  have kY72 : a.eval (.tmp 72) = t72 := (E.ag 72 (by decide)).trans gY72
  have kY73 : a.eval (.tmp 73) = t73 := (E.ag 73 (by decide)).trans gY73
  have kY74 : a.eval (.tmp 74) = t74 := (E.ag 74 (by decide)).trans gY74
  have kY75 : a.eval (.tmp 75) = t75 := (E.ag 75 (by decide)).trans gY75
  have kY76 : a.eval (.tmp 76) = t76 := (E.ag 76 (by decide)).trans gY76
  have kY77 : a.eval (.tmp 77) = t77 := (E.ag 77 (by decide)).trans gY77
  have kY78 : a.eval (.tmp 78) = t78 := (E.ag 78 (by decide)).trans gY78
  have kY79 : a.eval (.tmp 79) = t79 := (E.ag 79 (by decide)).trans gY79
  have kY80 : a.eval (.tmp 80) = t80 := (E.ag 80 (by decide)).trans gY80
  have kY81 : a.eval (.tmp 81) = t81 := (E.ag 81 (by decide)).trans gY81
  have kY82 : a.eval (.tmp 82) = t82 := (E.ag 82 (by decide)).trans gY82
  have kY83 : a.eval (.tmp 83) = t83 := (E.ag 83 (by decide)).trans gY83
  have kY84 : a.eval (.tmp 84) = t84 := (E.ag 84 (by decide)).trans gY84
  have kY85 : a.eval (.tmp 85) = t85 := (E.ag 85 (by decide)).trans gY85
  have kY86 : a.eval (.tmp 86) = t86 := (E.ag 86 (by decide)).trans gY86
  have kY87 : a.eval (.tmp 87) = t87 := (E.ag 87 (by decide)).trans gY87
  have kY88 : a.eval (.tmp 88) = t88 := (E.ag 88 (by decide)).trans gY88
  have kY89 : a.eval (.tmp 89) = t89 := (E.ag 89 (by decide)).trans gY89
  have kY90 : a.eval (.tmp 90) = t90 := (E.ag 90 (by decide)).trans gY90
  have kY91 : a.eval (.tmp 91) = t91 := (E.ag 91 (by decide)).trans gY91
  have kY92 : a.eval (.tmp 92) = t92 := (E.ag 92 (by decide)).trans gY92
  have kY93 : a.eval (.tmp 93) = t93 := (E.ag 93 (by decide)).trans gY93
  have kY94 : a.eval (.tmp 94) = t94 := (E.ag 94 (by decide)).trans gY94
  have kY95 : a.eval (.tmp 95) = t95 := (E.ag 95 (by decide)).trans gY95
  have kY96 : a.eval (.tmp 96) = t96 := (E.ag 96 (by decide)).trans gY96
  have kY97 : a.eval (.tmp 97) = t97 := (E.ag 97 (by decide)).trans gY97
  have kY98 : a.eval (.tmp 98) = t98 := (E.ag 98 (by decide)).trans gY98
  have kY99 : a.eval (.tmp 99) = t99 := (E.ag 99 (by decide)).trans gY99
  have kY100 : a.eval (.tmp 100) = t100 := (E.ag 100 (by decide)).trans gY100
  have kY101 : a.eval (.tmp 101) = t101 := (E.ag 101 (by decide)).trans gY101
  have kY102 : a.eval (.tmp 102) = t102 := (E.ag 102 (by decide)).trans gY102
  have kY103 : a.eval (.tmp 103) = t103 := (E.ag 103 (by decide)).trans gY103
  have kY104 : a.eval (.tmp 104) = t104 := (E.ag 104 (by decide)).trans gY104
  have kY105 : a.eval (.tmp 105) = t105 := (E.ag 105 (by decide)).trans gY105
  have kY106 : a.eval (.tmp 106) = t106 := (E.ag 106 (by decide)).trans gY106
  have kY107 : a.eval (.tmp 107) = t107 := (E.ag 107 (by decide)).trans gY107
  have kY108 : a.eval (.tmp 108) = t108 := (E.ag 108 (by decide)).trans gY108
  have kY109 : a.eval (.tmp 109) = t109 := (E.ag 109 (by decide)).trans gY109
  have kY110 : a.eval (.tmp 110) = t110 := (E.ag 110 (by decide)).trans gY110
  have kY111 : a.eval (.tmp 111) = t111 := (E.ag 111 (by decide)).trans gY111
  have kY112 : a.eval (.tmp 112) = t112 := (E.ag 112 (by decide)).trans gY112
  have kY113 : a.eval (.tmp 113) = t113 := (E.ag 113 (by decide)).trans gY113
  have kY114 : a.eval (.tmp 114) = t114 := (E.ag 114 (by decide)).trans gY114
  have kY115 : a.eval (.tmp 115) = t115 := (E.ag 115 (by decide)).trans gY115
  have kY116 : a.eval (.tmp 116) = t116 := (E.ag 116 (by decide)).trans gY116
  have kY117 : a.eval (.tmp 117) = t117 := (E.ag 117 (by decide)).trans gY117
  have kY118 : a.eval (.tmp 118) = t118 := (E.ag 118 (by decide)).trans gY118
  have kY119 : a.eval (.tmp 119) = t119 := (E.ag 119 (by decide)).trans gY119
  have kY120 : a.eval (.tmp 120) = t120 := (E.ag 120 (by decide)).trans gY120
  have kY121 : a.eval (.tmp 121) = t121 := (E.ag 121 (by decide)).trans gY121
  have kY122 : a.eval (.tmp 122) = t122 := (E.ag 122 (by decide)).trans gY122
  have kY123 : a.eval (.tmp 123) = t123 := (E.ag 123 (by decide)).trans gY123
  have kY124 : a.eval (.tmp 124) = t124 := (E.ag 124 (by decide)).trans gY124
  have kY125 : a.eval (.tmp 125) = t125 := (E.ag 125 (by decide)).trans gY125
  have kY126 : a.eval (.tmp 126) = t126 := (E.ag 126 (by decide)).trans gY126
  have kY127 : a.eval (.tmp 127) = t127 := (E.ag 127 (by decide)).trans gY127
  have kY128 : a.eval (.tmp 128) = t128 := (E.ag 128 (by decide)).trans gY128
  have kY129 : a.eval (.tmp 129) = t129 := (E.ag 129 (by decide)).trans gY129
  have kY130 : a.eval (.tmp 130) = t130 := (E.ag 130 (by decide)).trans gY130
  have kY141 : a.eval (.tmp 141) = t141 := (E.ag 141 (by decide)).trans gY141
  have kY142 : a.eval (.tmp 142) = t142 := (E.ag 142 (by decide)).trans gY142
  have kY143 : a.eval (.tmp 143) = t143 := (E.ag 143 (by decide)).trans gY143
  have kY144 : a.eval (.tmp 144) = t144 := (E.ag 144 (by decide)).trans gY144
  have kY145 : a.eval (.tmp 145) = t145 := (E.ag 145 (by decide)).trans gY145
  have kY146 : a.eval (.tmp 146) = t146 := (E.ag 146 (by decide)).trans gY146
  have kY147 : a.eval (.tmp 147) = t147 := (E.ag 147 (by decide)).trans gY147
  have kY148 : a.eval (.tmp 148) = t148 := (E.ag 148 (by decide)).trans gY148
  have kY149 : a.eval (.tmp 149) = t149 := (E.ag 149 (by decide)).trans gY149
  have kY150 : a.eval (.tmp 150) = t150 := (E.ag 150 (by decide)).trans gY150
  have kY151 : a.eval (.tmp 151) = t151 := (E.ag 151 (by decide)).trans gY151
  have kY152 : a.eval (.tmp 152) = t152 := (E.ag 152 (by decide)).trans gY152
  have kY153 : a.eval (.tmp 153) = t153 := (E.ag 153 (by decide)).trans gY153
  have kY154 : a.eval (.tmp 154) = t154 := (E.ag 154 (by decide)).trans gY154
  have kY155 : a.eval (.tmp 155) = t155 := (E.ag 155 (by decide)).trans gY155
  have kY156 : a.eval (.tmp 156) = t156 := (E.ag 156 (by decide)).trans gY156
  have kY157 : a.eval (.tmp 157) = t157 := (E.ag 157 (by decide)).trans gY157
  have kY158 : a.eval (.tmp 158) = t158 := (E.ag 158 (by decide)).trans gY158
  have kY159 : a.eval (.tmp 159) = t159 := (E.ag 159 (by decide)).trans gY159
  have kY160 : a.eval (.tmp 160) = t160 := (E.ag 160 (by decide)).trans gY160
  have kY161 : a.eval (.tmp 161) = t161 := (E.ag 161 (by decide)).trans gY161
  have kY162 : a.eval (.tmp 162) = t162 := (E.ag 162 (by decide)).trans gY162
  have kY163 : a.eval (.tmp 163) = t163 := (E.ag 163 (by decide)).trans gY163
  have kY164 : a.eval (.tmp 164) = t164 := (E.ag 164 (by decide)).trans gY164
  have kY165 : a.eval (.tmp 165) = t165 := (E.ag 165 (by decide)).trans gY165
  have kY166 : a.eval (.tmp 166) = t166 := (E.ag 166 (by decide)).trans gY166
  have kY167 : a.eval (.tmp 167) = t167 := (E.ag 167 (by decide)).trans gY167
  have kY168 : a.eval (.tmp 168) = t168 := (E.ag 168 (by decide)).trans gY168
  have kY169 : a.eval (.tmp 169) = t169 := (E.ag 169 (by decide)).trans gY169
  have kY170 : a.eval (.tmp 170) = t170 := (E.ag 170 (by decide)).trans gY170
  have kY171 : a.eval (.tmp 171) = t171 := (E.ag 171 (by decide)).trans gY171
  have kY172 : a.eval (.tmp 172) = t172 := (E.ag 172 (by decide)).trans gY172
  have kY173 : a.eval (.tmp 173) = t173 := (E.ag 173 (by decide)).trans gY173
  have kY174 : a.eval (.tmp 174) = t174 := (E.ag 174 (by decide)).trans gY174
  have kY175 : a.eval (.tmp 175) = t175 := (E.ag 175 (by decide)).trans gY175
  have kY176 : a.eval (.tmp 176) = t176 := (E.ag 176 (by decide)).trans gY176
  have kY177 : a.eval (.tmp 177) = t177 := (E.ag 177 (by decide)).trans gY177
  have kY178 : a.eval (.tmp 178) = t178 := (E.ag 178 (by decide)).trans gY178
  have kY179 : a.eval (.tmp 179) = t179 := (E.ag 179 (by decide)).trans gY179
  have kY180 : a.eval (.tmp 180) = t180 := (E.ag 180 (by decide)).trans gY180
  have kY181 : a.eval (.tmp 181) = t181 := (E.ag 181 (by decide)).trans gY181
  have kY182 : a.eval (.tmp 182) = t182 := (E.ag 182 (by decide)).trans gY182
  have kY183 : a.eval (.tmp 183) = t183 := (E.ag 183 (by decide)).trans gY183
  have kY184 : a.eval (.tmp 184) = t184 := (E.ag 184 (by decide)).trans gY184
  have kY185 : a.eval (.tmp 185) = t185 := (E.ag 185 (by decide)).trans gY185
  have kY186 : a.eval (.tmp 186) = t186 := (E.ag 186 (by decide)).trans gY186
  have kY187 : a.eval (.tmp 187) = t187 := (E.ag 187 (by decide)).trans gY187
  have kY188 : a.eval (.tmp 188) = t188 := (E.ag 188 (by decide)).trans gY188
  have kY189 : a.eval (.tmp 189) = t189 := (E.ag 189 (by decide)).trans gY189
  have kY190 : a.eval (.tmp 190) = t190 := (E.ag 190 (by decide)).trans gY190
  have kY191 : a.eval (.tmp 191) = t191 := (E.ag 191 (by decide)).trans gY191
  have kY192 : a.eval (.tmp 192) = t192 := (E.ag 192 (by decide)).trans gY192
  have kY193 : a.eval (.tmp 193) = t193 := (E.ag 193 (by decide)).trans gY193
  have kY194 : a.eval (.tmp 194) = t194 := (E.ag 194 (by decide)).trans gY194
  have kY195 : a.eval (.tmp 195) = t195 := (E.ag 195 (by decide)).trans gY195
  have kY196 : a.eval (.tmp 196) = t196 := (E.ag 196 (by decide)).trans gY196
  have kY197 : a.eval (.tmp 197) = t197 := (E.ag 197 (by decide)).trans gY197
  have kY198 : a.eval (.tmp 198) = t198 := (E.ag 198 (by decide)).trans gY198
  have kY199 : a.eval (.tmp 199) = t199 := (E.ag 199 (by decide)).trans gY199
  have kY200 : a.eval (.tmp 200) = t200 := (E.ag 200 (by decide)).trans gY200
  have kY201 : a.eval (.tmp 201) = t201 := (E.ag 201 (by decide)).trans gY201
  have kY202 : a.eval (.tmp 202) = t202 := (E.ag 202 (by decide)).trans gY202
  have kY203 : a.eval (.tmp 203) = t203 := (E.ag 203 (by decide)).trans gY203
  have kY204 : a.eval (.tmp 204) = t204 := (E.ag 204 (by decide)).trans gY204
  have kY205 : a.eval (.tmp 205) = t205 := (E.ag 205 (by decide)).trans gY205
  have kY206 : a.eval (.tmp 206) = t206 := (E.ag 206 (by decide)).trans gY206
  rw [kY0, kY1, kY2, kY3, kY4, kY5, kY6, kY7, kY8, kY9, kY10, kY11, kY12, kY13, kY14, kY15, kY16, kY17, kY18, kY19, kY20, kY21, kY22, kY24, kY25, kY26, kY27, kY28, kY29, kY30, kY31, kY32, kY33, kY34, kY35, kY36, kY37, kY38, kY39, kY40, kY41, kY42, kY43, kY44, kY45, kY46, kY47, kY48, kY49, kY50, kY51, kY52, kY53, kY54, kY55, kY56, kY57, kY58, kY59, kY60, kY61, kY62, kY63, kY64, kY65, kY66, kY67, kY68, kY69, kY70, kY71, kY72, kY73, kY74, kY75, kY76, kY77, kY78, kY79, kY80, kY81, kY82, kY83, kY84, kY85, kY86, kY87, kY88, kY89, kY90, kY91, kY92, kY93, kY94, kY95, kY96, kY97, kY98, kY99, kY100, kY101, kY102, kY103, kY104, kY105, kY106, kY107, kY108, kY109, kY110, kY111, kY112, kY113, kY114, kY115, kY116, kY117, kY118, kY119, kY120, kY121, kY122, kY123, kY124, kY125, kY126, kY127, kY128, kY129, kY130, kY141, kY142, kY143, kY144, kY145, kY146, kY147, kY148, kY149, kY150, kY151, kY152, kY153, kY154, kY155, kY156, kY157, kY158, kY159, kY160, kY161, kY162, kY163, kY164, kY165, kY166, kY167, kY168, kY169, kY170, kY171, kY172, kY173, kY174, kY175, kY176, kY177, kY178, kY179, kY180, kY181, kY182, kY183, kY184, kY185, kY186, kY187, kY188, kY189, kY190, kY191, kY192, kY193, kY194, kY195, kY196, kY197, kY198, kY199, kY200, kY201, kY202, kY203, kY204, kY205, kY206]
  exact hq

end Go.Proofs.Ytemalidanjfmkaa
