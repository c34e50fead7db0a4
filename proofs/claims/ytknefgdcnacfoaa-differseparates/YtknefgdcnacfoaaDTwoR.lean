/-
  Two machines copied in one statement, in whatever order.
-/
import Derived.Test.YtknefgdcnacfoaaDTwo
import Derived.Test.YtknefgdcnacfoaaK1
import Derived.Orders
namespace Go.Proofs.Ytknefgdcnacfoaa
open Go.RowKit

theorem alloc_run (w : World) : (Instr.alloc 24 true (.tuple #[])).run Try.prog w = .ok (.pointer (some ⟨w.heap.size, 0, none⟩)) (w.alloc zO) := by
  go_simp
theorem load_run {w : World} {b : Nat} {m : Mc} {a1 : Option Addr} {c1 : Nat} {a2 : Option Addr} {c2 : Nat} (h : Box w b m a1 c1 a2 c2) : (Instr.loadAt 24 (.pointer (some ⟨b, 0, none⟩))).run Try.prog w = .ok (mval m a1 c1 a2 c2) w := by
  obtain ⟨p0, p1, p2, p3, p4, p5⟩ := h
  unfold mval
  go_simp
theorem store_run {w : World} {b : Nat} (h : w.heap[b]? = some zO) (m : Mc) (a1 : Option Addr) (c1 : Nat) (a2 : Option Addr) (c2 : Nat) : (Instr.storeAt 24 (.pointer (some ⟨b, 0, none⟩)) (mval m a1 c1 a2 c2)).run Try.prog w = .ok () (six w b m a1 c1 a2 c2) := by
  obtain ⟨⟨h0, h1, h2, h3, h4, h5⟩, g0, g1, g2, g3, g4, g5⟩ := zfacts h
  unfold mval six
  go_simp

/-- The statement's operations. -/
def cp0 : Oper := { dst := some 22, op := Op.load 24 (Operand.tmp 2), type := 24, pos := "law.go:33", after := #[], guard := none }
def cp1 : Oper := { dst := some 23, op := Op.call { callee := Callee.value (Operand.func 10), args := #[Operand.tmp 22], argTypes := #[24] }, type := 24, pos := "law.go:33", after := #[{ on := 0, ground := Ground.data }], guard := none }
def cp2 : Oper := { dst := some 24, op := Op.load 24 (Operand.tmp 3), type := 24, pos := "law.go:33", after := #[], guard := none }
def cp3 : Oper := { dst := some 25, op := Op.call { callee := Callee.value (Operand.func 10), args := #[Operand.tmp 24], argTypes := #[24] }, type := 24, pos := "law.go:33", after := #[{ on := 2, ground := Ground.data }, { on := 1, ground := Ground.chain }], guard := none }
def cp4 : Oper := { dst := some 5, op := Op.alloc 24, type := 0, pos := "law.go:33", after := #[], guard := none }
def cp5 : Oper := { dst := some 6, op := Op.alloc 24, type := 0, pos := "law.go:33", after := #[], guard := none }
def cp6 : Oper := { dst := none, op := Op.store 24 (Operand.tmp 5) (Operand.tmp 23), type := 0, pos := "law.go:33", after := #[{ on := 4, ground := Ground.data }, { on := 1, ground := Ground.data }, { on := 3, ground := Ground.chain }, { on := 0, ground := Ground.phase }, { on := 1, ground := Ground.phase }, { on := 2, ground := Ground.textOnly Departure.lateStores }, { on := 3, ground := Ground.textOnly Departure.lateStoresUnsure }, { on := 4, ground := Ground.phase }, { on := 5, ground := Ground.phase }], guard := none }
def cp7 : Oper := { dst := none, op := Op.store 24 (Operand.tmp 6) (Operand.tmp 25), type := 0, pos := "law.go:33", after := #[{ on := 5, ground := Ground.data }, { on := 3, ground := Ground.data }, { on := 6, ground := Ground.chain }, { on := 0, ground := Ground.phase }, { on := 1, ground := Ground.phase }, { on := 2, ground := Ground.phase }, { on := 3, ground := Ground.phase }, { on := 4, ground := Ground.phase }, { on := 5, ground := Ground.phase }, { on := 6, ground := Ground.phase }], guard := none }
def cpOps : Array Oper := #[cp0, cp1, cp2, cp3, cp4, cp5, cp6, cp7]

/-- What holds at every point of an open order holds at its end. -/
theorem wpAny_inv {P : Program} {md : Region.Mode} {ops : Array Oper} {Q : Exit → Act → World → Prop} (I : Nat → Array Bool → Act → World → Prop)
    (h0 : ∀ L a w, I 0 L a w → Region.ready md ops L = [] ∧ Q .normal a w)
    (h1 : ∀ f L a w, I (f + 1) L a w → (Region.ready md ops L = [] → Q .normal a w) ∧ ∀ i ∈ Region.ready md ops L, wpOp P ops Q i (I f (L.setIfInBounds i true)) a w) :
    ∀ f L a w, I f L a w → wpAny P md ops Q f L a w
  | 0, L, a, w, h => h0 L a w h
  | f + 1, L, a, w, h => ⟨(h1 f L a w h).1, fun i hi => wpOp_mono (fun a' w' h' => wpAny_inv I h0 h1 f _ a' w' h') ((h1 f L a w h).2 i hi)⟩
theorem ev_ne {a : Act} {d t : Nat} {v : Value} (h : t ≠ d) : (a.put (some d) v).eval (.tmp t) = a.eval (.tmp t) := by
  simp [Act.put, Act.eval, Array.getElem?_setIfInBounds_ne (Ne.symm h)]
theorem ev_same {a : Act} {d : Nat} {v : Value} (h : d < a.tmps.size) : (a.put (some d) v).eval (.tmp d) = v := by
  simp [Act.put, Act.eval, h]
def ls (L : Array Bool) (k : Nat) : Bool := L.getD k false
theorem ls_set {L : Array Bool} {i k : Nat} (hi : i < L.size) : ls (L.setIfInBounds i true) k = (decide (k = i) || ls L k) := by
  unfold ls
  by_cases c : k = i
  · subst c; simp [hi]
  · simp [Array.getElem?_setIfInBounds_ne (Ne.symm c), c]
def cnt8 (L : Array Bool) : Nat := (ls L 0).toNat + (ls L 1).toNat + (ls L 2).toNat + (ls L 3).toNat + (ls L 4).toNat + (ls L 5).toNat + (ls L 6).toNat + (ls L 7).toNat
theorem cnt8_set {L : Array Bool} (hs : L.size = 8) {i : Nat} (hi : i < 8) (hl : ls L i = false) : cnt8 (L.setIfInBounds i true) = cnt8 L + 1 := by
  unfold cnt8
  simp only [ls_set (L := L) (i := i) (by omega)]
  match i, hi with
  | 0, _ => simp [hl]; omega
  | 1, _ => simp [hl]; omega
  | 2, _ => simp [hl]; omega
  | 3, _ => simp [hl]; omega
  | 4, _ => simp [hl]; omega
  | 5, _ => simp [hl]; omega
  | 6, _ => simp [hl]; omega
  | 7, _ => simp [hl]
/-- When nothing may come up, all has come. -/
theorem cp_all {L : Array Bool} (hs : L.size = 8) (h : Region.ready .any cpOps L = []) : ∀ k, k < 8 → ls L k = true := by
  have H : ∀ (j : Nat) (o : Oper), cpOps[j]? = some o → j < 8 → (∀ e ∈ o.after, Region.binds .any e = true → ls L e.on = true) → ls L j = true := fun j o ho hj ha => by
    cases hl : ls L j
    · exfalso
      have : j ∈ Region.ready .any cpOps L := mem_ready.2 ⟨by unfold ls at hl; simp only [Array.getD_eq_getD_getElem?] at hl ⊢; rw [Array.getElem?_eq_getElem (by omega)] at hl ⊢; simpa using hl, o, ho, ha⟩
      rw [h] at this; cases this
    · rfl
  have l0 := H 0 cp0 rfl (by omega) (by intro e he; simp [cp0] at he)
  have l2 := H 2 cp2 rfl (by omega) (by intro e he; simp [cp2] at he)
  have l4 := H 4 cp4 rfl (by omega) (by intro e he; simp [cp4] at he)
  have l5 := H 5 cp5 rfl (by omega) (by intro e he; simp [cp5] at he)
  have l1 := H 1 cp1 rfl (by omega) (by intro e he _; simp [cp1] at he; subst he; exact l0)
  have l3 := H 3 cp3 rfl (by omega) (by intro e he _; simp [cp3] at he; rcases he with rfl | rfl <;> assumption)
  have l6 := H 6 cp6 rfl (by omega) (by intro e he _; simp [cp6] at he; rcases he with rfl | rfl | rfl | rfl | rfl | rfl | rfl | rfl | rfl <;> assumption)
  have l7 := H 7 cp7 rfl (by omega) (by intro e he _; simp [cp7] at he; rcases he with rfl | rfl | rfl | rfl | rfl | rfl | rfl | rfl | rfl | rfl <;> assumption)
  intro k hk
  match k, hk with
  | 0, _ => exact l0
  | 1, _ => exact l1
  | 2, _ => exact l2
  | 3, _ => exact l3
  | 4, _ => exact l4
  | 5, _ => exact l5
  | 6, _ => exact l6
  | 7, _ => exact l7
end Go.Proofs.Ytknefgdcnacfoaa
