/-
  The object that parts states, as Hopcroft makes it.
-/
import Derived.Test.YtnakadlhafggkaaQNew
import Derived.Test.YtnakadlhafggkaaK13
import Derived.Test.YtnakadlhafggkaaK1
namespace Go.Proofs.Ytnakadlhafggkaa
open Go.RowKit

theorem step_call1 {ops : Array Oper} {o : Oper} {a : Act} {w : World} {K : Act → World → Prop} {Q : Exit → Act → World → Prop} {F : Prop}
    (hg : o.guard = none) (f : Nat) (x : Operand) (ts : Array TypeId) (ho : o.op = .call { callee := .value (.func f), args := #[x], argTypes := ts })
    {fn : Func} (hfn : Try.prog.funcs[f]? = some fn) (hname : (fn.name == "runtime.NumGoroutine") = false) (hbody : fn.body.isNone = false)
    (u : Value) (hx : a.eval x = u) {R : Ending → World → Prop} (hc : Calls Try.prog f #[u] w R) (h : ∀ e w', R e w' → ∃ v, e = .returned v ∧ K (a.put o.dst v) w') :
    if Region.wanted o (yielded ops a.tmps) = true then Oper.wp Try.prog o a w K Q else F :=
  step_call hg f #[x] ts ho hfn hname hbody #[u] (by simp [hx]) hc h

structure MadeZ (w0 : World) (N : Nat) (v : Value) (w : World) (z : Nat) (p : Pp) (gs gw : Nat) : Prop where
  v : v = .pointer (some ⟨z, 0, none⟩)
  hat : PtAt w p gs 1 1 (iotaP N N) (iotaP N N) (List.replicate N 0) (fun _ i => if i = 0 then 0 else N)
  pn : p.n = N
  lo : ∀ k, p.has gs k → w0.heap.size ≤ k
  bl : Below w0.heap.size w0 w
  c0 : w.cell? ⟨z, 0, none⟩ = some (.pointer (some ⟨p.b, 0, none⟩))
  c1 : w.cell? ⟨z, 1, none⟩ = some (.slice none 0 0)
  c2 : w.cell? ⟨z, 2, none⟩ = some (.slice (some ⟨gw, 0, none⟩) 1 1)
  f1 : w.frozen? ⟨z, 1, none⟩ = false
  f2 : w.frozen? ⟨z, 2, none⟩ = false
  e : OwnE 4 w 0 (.slice (some ⟨gw, 0, none⟩) 1 1) 1 (bv fun _ => false)
  zl : w0.heap.size ≤ z
  zp : ¬ p.has gs z
  gl : w0.heap.size ≤ gw
  gz : gw ≠ z
  gp : ¬ p.has gs gw

theorem made_z {w0 w2 w3 : World} {N z gw : Nat} {p : Pp} {gs : Nat} (hat : PtAt w2 p gs 1 1 (iotaP N N) (iotaP N N) (List.replicate N 0) (fun _ i => if i = 0 then 0 else N)) (pn : p.n = N) (lo : ∀ k, p.has gs k → w0.heap.size ≤ k) (b2 : Below w2.heap.size w2 w3) (bl : Below w0.heap.size w0 w3)
    (hz : w3.heap[z]? = some (.cells #[.pointer (some ⟨p.b, 0, none⟩), .slice none 0 0, .slice (some ⟨gw, 0, none⟩) 1 1] 79)) (hw : w3.heap[gw]? = some (.cells (madeCells #[.bool false] 1) 4)) (zl : w2.heap.size ≤ z) (s2 : w0.heap.size ≤ w2.heap.size) (gl : w0.heap.size ≤ gw) (gz : gw ≠ z) (gp : ¬ p.has gs gw) : MadeZ w0 N (.pointer (some ⟨z, 0, none⟩)) w3 z p gs gw := by
  have lt : ∀ j, p.has gs j → j < w2.heap.size := fun j hj => PtAt.lt hat hj
  refine ⟨rfl, hat.keep fun j hj => b2.block j (lt j hj), pn, lo, bl, ?_, ?_, ?_, ?_, ?_, ?_, by omega, fun h => ?_, gl, gz, gp⟩
  · unfold World.cell?; rw [hz]; rfl
  · unfold World.cell?; rw [hz]; rfl
  · unfold World.cell?; rw [hz]; rfl
  · unfold World.frozen?; rw [hz]; rfl
  · unfold World.frozen?; rw [hz]; rfl
  · refine ⟨by simp [cellsV], .inr ⟨gw, 1, _, rfl, Nat.zero_le _, hw, Nat.le_refl _, by unfold maxLen; omega, by rw [size_madeCells], ?_⟩⟩
    rw [toList_madeCells_one]
    simp [cellsV, bv]
  · have := lt z h; omega

theorem made_a {w1 w2 : World} {N : Nat} {p : Pp} {gs : Nat} (hat : PtAt w2 p gs 1 1 (iotaP N N) (iotaP N N) (List.replicate N 0) (fun _ i => if i = 0 then 0 else N)) (pn : p.n = N) (lo : ∀ k, p.has gs k → w1.drew.heap.size ≤ k) (hb : Below w1.drew.heap.size w1.drew w2) :
    ∃ z p' gs' gw, MadeZ w1 N (.pointer (some ⟨w2.heap.size + 1, 0, none⟩)) ((w2.alloc (.cells (madeCells #[.bool false] 1) 4)).alloc (.cells #[.pointer (some ⟨p.b, 0, none⟩), .slice none 0 0, .slice (some ⟨w2.heap.size, 0, none⟩) 1 1] 79)) z p' gs' gw := by
  have b1 : Below w1.heap.size w1 w2 := ((Below.refl _ w1).drew).trans hb
  have s1 := b1.size
  obtain ⟨o, ho⟩ : ∃ o, o = Obj.cells (madeCells #[.bool false] 1) 4 := ⟨_, rfl⟩
  obtain ⟨q, hq⟩ : ∃ q, q = Obj.cells #[.pointer (some ⟨p.b, 0, none⟩), .slice none 0 0, .slice (some ⟨w2.heap.size, 0, none⟩) 1 1] 79 := ⟨_, rfl⟩
  have n0 := heap_alloc_new w2 o
  have n1 := heap_alloc_new (w2.alloc o) q
  have k0 := Below.heap_alloc (w2.alloc o) q w2.heap.size (by simp)
  rw [World.size_alloc] at n1
  refine ⟨w2.heap.size + 1, p, gs, w2.heap.size, ?_⟩
  rw [← ho, ← hq]
  refine made_z hat pn lo (bstep (ballo _ _) (ballo _ _)) (bstep (bstep b1 (ballo _ _)) (ballo _ _)) (n1.trans (by rw [hq])) (k0.trans (n0.trans (by rw [ho]))) (by omega) s1 s1 (by omega) fun h => ?_
  have := PtAt.lt hat h
  omega
theorem made_b {w1 w2 : World} {N : Nat} {p : Pp} {gs : Nat} (hat : PtAt w2 p gs 1 1 (iotaP N N) (iotaP N N) (List.replicate N 0) (fun _ i => if i = 0 then 0 else N)) (pn : p.n = N) (lo : ∀ k, p.has gs k → (w1.alloc (.cells (madeCells #[.bool false] 1) 4)).drew.heap.size ≤ k) (hb : Below (w1.alloc (.cells (madeCells #[.bool false] 1) 4)).drew.heap.size (w1.alloc (.cells (madeCells #[.bool false] 1) 4)).drew w2) :
    ∃ z p' gs' gw, MadeZ w1 N (.pointer (some ⟨w2.heap.size, 0, none⟩)) (w2.alloc (.cells #[.pointer (some ⟨p.b, 0, none⟩), .slice none 0 0, .slice (some ⟨w1.heap.size, 0, none⟩) 1 1] 79)) z p' gs' gw := by
  obtain ⟨o, ho⟩ : ∃ o, o = Obj.cells (madeCells #[.bool false] 1) 4 := ⟨_, rfl⟩
  obtain ⟨q, hq⟩ : ∃ q, q = Obj.cells #[.pointer (some ⟨p.b, 0, none⟩), .slice none 0 0, .slice (some ⟨w1.heap.size, 0, none⟩) 1 1] 79 := ⟨_, rfl⟩
  rw [← ho] at lo hb
  have z1 : (w1.alloc o).drew.heap.size = w1.heap.size + 1 := World.size_alloc w1 o
  have b0 : Below w1.heap.size w1 (w1.alloc o).drew := (ballo w1 o).drew
  have b1 := bstep b0 hb
  have s1 := hb.size
  have n0 : (w1.alloc o).drew.heap[w1.heap.size]? = some o := heap_alloc_new w1 o
  have k0 := hb.block w1.heap.size (by omega)
  have k1 := Below.heap_alloc w2 q w1.heap.size (by omega)
  refine ⟨w2.heap.size, p, gs, w1.heap.size, ?_⟩
  rw [← hq]
  refine made_z hat pn (fun k h => by have := lo k h; omega) (ballo _ _) (bstep b1 (ballo _ _)) ((heap_alloc_new w2 q).trans (by rw [hq])) (k1.trans (k0.trans (n0.trans (by rw [ho])))) (Nat.le_refl _) (by omega) (Nat.le_refl _) (by omega) fun h => ?_
  have := lo _ h
  omega
end Go.Proofs.Ytnakadlhafggkaa
