/-
  Two machines copied in one statement: the statement as a whole.
-/
import Derived.Test.YtknefgdcnacfoaaDTwoS
namespace Go.Proofs.Ytknefgdcnacfoaa
open Go.RowKit

theorem bt1 (b : Bool) : b.toNat ≤ 1 := by cases b <;> decide
theorem bt_of {b : Bool} (h : b.toNat = 1) : b = true := by cases b; cases h; rfl
theorem all8 {L : Array Bool} (h : cnt8 L = 8) : ∀ k, k < 8 → ls L k = true := by
  unfold cnt8 at h
  have b0 := bt1 (ls L 0); have b1 := bt1 (ls L 1); have b2 := bt1 (ls L 2); have b3 := bt1 (ls L 3)
  have b4 := bt1 (ls L 4); have b5 := bt1 (ls L 5); have b6 := bt1 (ls L 6); have b7 := bt1 (ls L 7)
  intro k hk
  match k, hk with
  | 0, _ => exact bt_of (by omega)
  | 1, _ => exact bt_of (by omega)
  | 2, _ => exact bt_of (by omega)
  | 3, _ => exact bt_of (by omega)
  | 4, _ => exact bt_of (by omega)
  | 5, _ => exact bt_of (by omega)
  | 6, _ => exact bt_of (by omega)
  | 7, _ => exact bt_of (by omega)
theorem cnt_all {L : Array Bool} (h : ∀ k, k < 8 → ls L k = true) : cnt8 L = 8 := by
  unfold cnt8
  rw [h 0 (by omega), h 1 (by omega), h 2 (by omega), h 3 (by omega), h 4 (by omega), h 5 (by omega), h 6 (by omega), h 7 (by omega)]
  rfl
theorem ls_of {L : Array Bool} (hs : L.size = 8) {i : Nat} (hi : i < 8) (h : L.getD i true = false) : ls L i = false := by
  unfold ls
  simp only [Array.getD_eq_getD_getElem?] at h ⊢
  rw [Array.getElem?_eq_getElem (by omega)] at h ⊢
  simpa using h
/-- The copy's contract. -/
def CpC (w2 : World) (m : Mc) (a1 : Option Addr) (c1 : Nat) (a2 : Option Addr) (c2 : Nat) : Prop :=
  ∀ W, Below w2.heap.size w2 W → Calls Try.prog 10 #[mval m a1 c1 a2 c2] W fun e w' => ∃ d1 e1 d2 e2, e = .returned (mval m d1 e1 d2 e2) ∧ OwnL .i64 3 w' W.heap.size (.slice d1 m.nx.length e1) m.nx ∧ OwnL .i64 3 w' W.heap.size (.slice d2 m.out.length e2) m.out ∧ Below W.heap.size W w'
theorem wpOp_in {P : Program} {ops : Array Oper} {Q : Exit → Act → World → Prop} {i : Nat} {o : Oper} {K : Act → World → Prop} {a : Act} {w : World} (ho : ops[i]? = some o) (hg : o.guard = none) (h : o.wp P a w K Q) : wpOp P ops Q i K a w := by
  unfold wpOp
  rw [ho]
  have : Region.wanted o (yielded ops a.tmps) = true := by simp [Region.wanted, hg]
  simp only [this, if_true]
  exact .inl h
theorem wp_value {P : Program} {Q : Exit → Act → World → Prop} {o : Oper} {K : Act → World → Prop} {a : Act} {w w' : World} {v : Value} (e : (execOp a.eval o).run P w = .ok (.value v) w') (h : K (a.put o.dst v) w') : o.wp P a w K Q := by
  unfold Oper.wp; rw [e]; exact h
theorem wp_skip {P : Program} {Q : Exit → Act → World → Prop} {o : Oper} {K : Act → World → Prop} {a : Act} {w w' : World} (e : (execOp a.eval o).run P w = .ok .skip w') (h : K (a.put o.dst undef) w') : o.wp P a w K Q := by
  unfold Oper.wp; rw [e]; exact h
theorem wp_call {Q : Exit → Act → World → Prop} {o : Oper} {K : Act → World → Prop} {a : Act} {w : World} {ops : Array Oper} {f : Nat} {x : Operand} {ts : Array TypeId} (hg : o.guard = none) (ho : o.op = .call { callee := .value (.func f), args := #[x], argTypes := ts })
    {fn : Func} (hfn : Try.prog.funcs[f]? = some fn) (hname : (fn.name == "runtime.NumGoroutine") = false) (hbody : fn.body.isNone = false)
    {u : Value} (hx : a.eval x = u) {R : Ending → World → Prop} (hc : Calls Try.prog f #[u] w R) (h : ∀ e w', R e w' → ∃ v, e = .returned v ∧ K (a.put o.dst v) w') : o.wp Try.prog a w K Q := by
  have := step_call (ops := ops) (Q := Q) (F := False) hg f #[x] ts ho hfn hname hbody #[u] (by simp [hx]) hc h
  have hw : Region.wanted o (yielded ops a.tmps) = true := by simp [Region.wanted, hg]
  rw [if_pos hw] at this
  exact this

/-- What holds at every point. -/
def I8 (w2 : World) (a0 : Act) (A B : Mc) (a1 : Option Addr) (c1 : Nat) (a2 : Option Addr) (c2 : Nat) (d1 : Option Addr) (e1 : Nat) (d2 : Option Addr) (e2 : Nat) (f : Nat) (L : Array Bool) (a : Act) (w : World) : Prop :=
  L.size = 8 ∧ f + cnt8 L = 8 ∧ (∀ k, k < 6 → ls L 6 = true ∨ ls L 7 = true → ls L k = true) ∧ (ls L 3 = true → ls L 2 = true) ∧ ∃ x y f1 g1 f2 g2 r1 s1 r2 s2, T8 w2 a0 A B a1 c1 a2 c2 d1 e1 d2 e2 L a w x y f1 g1 f2 g2 r1 s1 r2 s2

set_option maxRecDepth 100000 in
set_option maxHeartbeats 2000000 in
theorem two_any {Q : Exit → Act → World → Prop} (a0 : Act) (w2 : World) (A B : Mc) (a1 : Option Addr) (c1 : Nat) (a2 : Option Addr) (c2 : Nat) (d1 : Option Addr) (e1 : Nat) (d2 : Option Addr) (e2 : Nat) (bA bB : Nat) (h89 : a0.tmps.size = 89)
    (ea : a0.eval (.tmp 2) = .pointer (some ⟨bA, 0, none⟩)) (eb : a0.eval (.tmp 3) = .pointer (some ⟨bB, 0, none⟩)) (BA : Box w2 bA A a1 c1 a2 c2) (BB : Box w2 bB B d1 e1 d2 e2) (CA : CpC w2 A a1 c1 a2 c2) (CB : CpC w2 B d1 e1 d2 e2)
    (fin : ∀ (L : Array Bool) (a : Act) (w : World) (x y : Nat) (f1 : Option Addr) (g1 : Nat) (f2 : Option Addr) (g2 : Nat) (r1 : Option Addr) (s1 : Nat) (r2 : Option Addr) (s2 : Nat), (∀ k, k < 8 → ls L k = true) → T8 w2 a0 A B a1 c1 a2 c2 d1 e1 d2 e2 L a w x y f1 g1 f2 g2 r1 s1 r2 s2 → Q .normal a w) :
    (Code.region 3 cpOps true).wp Try.prog Q a0 w2 := by
  refine wp_region_any (by kernel_rfl) (wpAny_inv (I8 w2 a0 A B a1 c1 a2 c2 d1 e1 d2 e2) ?_ ?_ 8 _ a0 _ ?_)
  · rintro L a w ⟨hs, hc, hcl, h32, x, y, f1, g1, f2, g2, r1, s1, r2, s2, h⟩
    have hall := all8 (L := L) (by omega)
    refine ⟨List.eq_nil_iff_forall_not_mem.2 fun i hi => ?_, fin L a w x y f1 g1 f2 g2 r1 s1 r2 s2 hall h⟩
    rw [mem_ready] at hi
    obtain ⟨hl, o, ho, _⟩ := hi
    have hi8 : i < 8 := (Array.getElem?_eq_some_iff.1 ho).1
    have := ls_of hs hi8 hl
    rw [hall i hi8] at this; cases this
  · rintro f L a w ⟨hs, hc, hcl, h32, x, y, f1, g1, f2, g2, r1, s1, r2, s2, h⟩
    refine ⟨fun hr => ?_, fun i hi => ?_⟩
    · have := cnt_all (cp_all hs hr)
      omega
    · rw [mem_ready] at hi
      obtain ⟨hl, o, ho, haft⟩ := hi
      have hi8 : i < 8 := (Array.getElem?_eq_some_iff.1 ho).1
      have hli := ls_of hs hi8 hl
      have hiL : i < L.size := by omega
      have hcn := cnt8_set hs hi8 hli
      have hsz : (L.setIfInBounds i true).size = 8 := by simp [hs]
      have ea' : a.eval (.tmp 2) = .pointer (some ⟨bA, 0, none⟩) := by
        have h1 := h.ag 2 (by decide) (by decide) (by decide) (by decide) (by decide) (by decide)
        unfold Act.eval at ea ⊢
        simp only [Array.getD_eq_getD_getElem?] at ea ⊢
        rw [h1]; exact ea
      have eb' : a.eval (.tmp 3) = .pointer (some ⟨bB, 0, none⟩) := by
        have h1 := h.ag 3 (by decide) (by decide) (by decide) (by decide) (by decide) (by decide)
        unfold Act.eval at eb ⊢
        simp only [Array.getD_eq_getD_getElem?] at eb ⊢
        rw [h1]; exact eb
      have hcl' : i < 6 → ∀ k, k < 6 → ls (L.setIfInBounds i true) 6 = true ∨ ls (L.setIfInBounds i true) 7 = true → ls (L.setIfInBounds i true) k = true := fun h6 k hk ho => by
        rw [ls_set hiL, ls_set hiL] at ho
        rw [ls_set hiL, hcl k hk (by
          rcases ho with ho | ho
          · left; simpa [show (6 : Nat) ≠ i by omega] using ho
          · right; simpa [show (7 : Nat) ≠ i by omega] using ho)]
        simp
      have n67 : i < 6 → ls L 6 = false ∧ ls L 7 = false := fun h6 => by
        constructor
        · cases c : ls L 6
          · rfl
          · rw [hcl i h6 (.inl c)] at hli; cases hli
        · cases c : ls L 7
          · rfl
          · rw [hcl i h6 (.inr c)] at hli; cases hli
      have h32' : i ≠ 3 → ls (L.setIfInBounds i true) 3 = true → ls (L.setIfInBounds i true) 2 = true := fun h3 h => by
        rw [ls_set hiL] at h ⊢
        have : ls L 3 = true := by simpa [show (3 : Nat) ≠ i from fun e => h3 e.symm] using h
        rw [h32 this]; simp
      match i, hi8 with
      | 0, _ =>
        refine wpOp_in (o := cp0) rfl rfl (wp_value (v := mval A a1 c1 a2 c2) (w' := w) ?_ ⟨hsz, by omega, hcl' (by omega), h32' (by decide), x, y, f1, g1, f2, g2, r1, s1, r2, s2, h.op0 hiL h89⟩)
        simp [execOp, cp0, ea', load_run (BA.below h.bl)]
      | 1, _ =>
        have l0 : ls L 0 = true := by
          obtain rfl : cp1 = o := Option.some.inj ho
          exact haft ⟨0, .data⟩ (by simp [cp1]) rfl
        refine wpOp_in (o := cp1) rfl rfl (wp_call (ops := cpOps) (x := .tmp 22) rfl rfl Try.func10 (by kernel_rfl) (by kernel_rfl) (h.v0 l0) (CA w h.bl) ?_)
        rintro e w' ⟨F1, G1, F2, G2, rfl, o1, o2, hb⟩
        have hbs := h.bl.size
        exact ⟨_, rfl, hsz, by omega, hcl' (by omega), h32' (by decide), x, y, F1, G1, F2, G2, r1, s1, r2, s2, (h.grow hb).op1 hiL h89 (n67 (by omega)).1 (n67 (by omega)).2 (o1.mono hbs) (o2.mono hbs)⟩
      | 2, _ =>
        refine wpOp_in (o := cp2) rfl rfl (wp_value (v := mval B d1 e1 d2 e2) (w' := w) ?_ ⟨hsz, by omega, hcl' (by omega), h32' (by decide), x, y, f1, g1, f2, g2, r1, s1, r2, s2, h.op2 hiL h89⟩)
        simp [execOp, cp2, eb', load_run (BB.below h.bl)]
      | 3, _ =>
        have l2 : ls L 2 = true := by
          obtain rfl : cp3 = o := Option.some.inj ho
          exact haft ⟨2, .data⟩ (by simp [cp3]) rfl
        refine wpOp_in (o := cp3) rfl rfl (wp_call (ops := cpOps) (x := .tmp 24) rfl rfl Try.func10 (by kernel_rfl) (by kernel_rfl) (h.v2 l2) (CB w h.bl) ?_)
        rintro e w' ⟨F1, G1, F2, G2, rfl, o1, o2, hb⟩
        have hbs := h.bl.size
        exact ⟨_, rfl, hsz, by omega, hcl' (by omega), (fun _ => by rw [ls_set hiL, l2]; simp), x, y, f1, g1, f2, g2, F1, G1, F2, G2, (h.grow hb).op3 hiL h89 (n67 (by omega)).1 (n67 (by omega)).2 (o1.mono hbs) (o2.mono hbs)⟩
      | 4, _ =>
        refine wpOp_in (o := cp4) rfl rfl (wp_value (v := .pointer (some ⟨w.heap.size, 0, none⟩)) (w' := w.alloc zO) ?_ ⟨hsz, by omega, hcl' (by omega), h32' (by decide), w.heap.size, y, f1, g1, f2, g2, r1, s1, r2, s2, h.op4 hiL h89 (n67 (by omega)).1 (n67 (by omega)).2⟩)
        simp [execOp, cp4, alloc_run]
      | 5, _ =>
        refine wpOp_in (o := cp5) rfl rfl (wp_value (v := .pointer (some ⟨w.heap.size, 0, none⟩)) (w' := w.alloc zO) ?_ ⟨hsz, by omega, hcl' (by omega), h32' (by decide), x, w.heap.size, f1, g1, f2, g2, r1, s1, r2, s2, h.op5 hiL h89 (n67 (by omega)).1 (n67 (by omega)).2⟩)
        simp [execOp, cp5, alloc_run]
      | 6, _ =>
        obtain rfl : cp6 = o := Option.some.inj ho
        have l0 : ls L 0 = true := haft ⟨0, .phase⟩ (by simp [cp6]) rfl
        have l1 : ls L 1 = true := haft ⟨1, .data⟩ (by simp [cp6]) rfl
        have l3 : ls L 3 = true := haft ⟨3, .chain⟩ (by simp [cp6]) rfl
        have l4 : ls L 4 = true := haft ⟨4, .data⟩ (by simp [cp6]) rfl
        have l5 : ls L 5 = true := haft ⟨5, .phase⟩ (by simp [cp6]) rfl
        have hall : ∀ k, k < 6 → ls L k = true := fun k hk => by
          match k, hk with
          | 0, _ => exact l0
          | 1, _ => exact l1
          | 2, _ => exact h32 l3
          | 3, _ => exact l3
          | 4, _ => exact l4
          | 5, _ => exact l5
        refine wpOp_in (o := cp6) rfl rfl (wp_skip (w' := six w x A f1 g1 f2 g2) ?_ ⟨hsz, by omega, fun k hk _ => by rw [ls_set hiL, hall k hk]; simp, h32' (by decide), x, y, f1, g1, f2, g2, r1, s1, r2, s2, h.op6 hiL l4 l5 l1 l3⟩)
        simp [execOp, cp6, (h.v4 l4).1, (h.v1 l1).1, store_run (h.z4 l4 hli)]
      | 7, _ =>
        obtain rfl : cp7 = o := Option.some.inj ho
        have l0 : ls L 0 = true := haft ⟨0, .phase⟩ (by simp [cp7]) rfl
        have l1 : ls L 1 = true := haft ⟨1, .phase⟩ (by simp [cp7]) rfl
        have l3 : ls L 3 = true := haft ⟨3, .data⟩ (by simp [cp7]) rfl
        have l4 : ls L 4 = true := haft ⟨4, .phase⟩ (by simp [cp7]) rfl
        have l5 : ls L 5 = true := haft ⟨5, .data⟩ (by simp [cp7]) rfl
        have hall : ∀ k, k < 6 → ls L k = true := fun k hk => by
          match k, hk with
          | 0, _ => exact l0
          | 1, _ => exact l1
          | 2, _ => exact h32 l3
          | 3, _ => exact l3
          | 4, _ => exact l4
          | 5, _ => exact l5
        refine wpOp_in (o := cp7) rfl rfl (wp_skip (w' := six w y B r1 s1 r2 s2) ?_ ⟨hsz, by omega, fun k hk _ => by rw [ls_set hiL, hall k hk]; simp, h32' (by decide), x, y, f1, g1, f2, g2, r1, s1, r2, s2, h.op7 hiL l4 l5 l1 l3⟩)
        simp [execOp, cp7, (h.v5 l5).1, (h.v3 l3).1, store_run (h.z5 l5 hli)]
  · have nl : ∀ k, k < 8 → ls (Array.replicate cpOps.size false) k = false := fun k hk => by
      unfold ls
      rw [Array.getD_eq_getD_getElem?, Array.getElem?_replicate]
      split <;> rfl
    have no : ∀ {k : Nat} {p : Prop}, k < 8 → ls (Array.replicate cpOps.size false) k = true → p := fun hk h => by rw [nl _ hk] at h; cases h
    refine ⟨by simp [cpOps], ?_, fun k _ h => ?_, fun h => no (by omega) h, 0, 0, none, 0, none, 0, none, 0, none, 0, ?_⟩
    · unfold cnt8
      rw [nl 0 (by omega), nl 1 (by omega), nl 2 (by omega), nl 3 (by omega), nl 4 (by omega), nl 5 (by omega), nl 6 (by omega), nl 7 (by omega)]
      rfl
    · rcases h with h | h
      · exact no (by omega) h
      · exact no (by omega) h
    · exact ⟨(Below.refl _ _).drew, rfl, rfl, fun _ _ _ _ _ _ _ => rfl, fun l => no (by omega) l, fun l => no (by omega) l, fun l => no (by omega) l, fun l => no (by omega) l, fun l => no (by omega) l, fun l _ => no (by omega) l, fun l => no (by omega) l, fun l _ => no (by omega) l, fun l _ => no (by omega) l, fun l => no (by omega) l, fun l => no (by omega) l, fun l => no (by omega) l, fun l => no (by omega) l⟩
theorem at_ev {a : Act} {t : Nat} (h : t < a.tmps.size) : a.tmps[t]? = some (a.eval (.tmp t)) := by
  unfold Act.eval
  rw [Array.getElem?_eq_getElem h]
  simp [Array.getD_eq_getD_getElem?, h]
theorem act_of {a a0 : Act} (h89 : a0.tmps.size = 89) (hz : a.tmps.size = a0.tmps.size) (hd : a.defers = a0.defers) (ag : ∀ t, t ≠ 5 → t ≠ 6 → t ≠ 22 → t ≠ 23 → t ≠ 24 → t ≠ 25 → a.tmps[t]? = a0.tmps[t]?) :
    a = ⟨(((((a0.tmps.setIfInBounds 5 (a.eval (.tmp 5))).setIfInBounds 6 (a.eval (.tmp 6))).setIfInBounds 22 (a.eval (.tmp 22))).setIfInBounds 23 (a.eval (.tmp 23))).setIfInBounds 24 (a.eval (.tmp 24))).setIfInBounds 25 (a.eval (.tmp 25)), a0.defers⟩ := by
  have e : a.tmps = (((((a0.tmps.setIfInBounds 5 (a.eval (.tmp 5))).setIfInBounds 6 (a.eval (.tmp 6))).setIfInBounds 22 (a.eval (.tmp 22))).setIfInBounds 23 (a.eval (.tmp 23))).setIfInBounds 24 (a.eval (.tmp 24))).setIfInBounds 25 (a.eval (.tmp 25)) := by
    apply Array.ext_getElem?
    intro t
    simp only [Array.getElem?_setIfInBounds, Array.size_setIfInBounds]
    by_cases t1 : 25 = t
    · subst t1; rw [if_pos rfl, if_pos (by omega)]; exact at_ev (by omega)
    · rw [if_neg t1]
      by_cases t2 : 24 = t
      · subst t2; rw [if_pos rfl, if_pos (by omega)]; exact at_ev (by omega)
      · rw [if_neg t2]
        by_cases t3 : 23 = t
        · subst t3; rw [if_pos rfl, if_pos (by omega)]; exact at_ev (by omega)
        · rw [if_neg t3]
          by_cases t4 : 22 = t
          · subst t4; rw [if_pos rfl, if_pos (by omega)]; exact at_ev (by omega)
          · rw [if_neg t4]
            by_cases t5 : 6 = t
            · subst t5; rw [if_pos rfl, if_pos (by omega)]; exact at_ev (by omega)
            · rw [if_neg t5]
              by_cases t6 : 5 = t
              · subst t6; rw [if_pos rfl, if_pos (by omega)]; exact at_ev (by omega)
              · rw [if_neg t6]
                exact ag t (Ne.symm t6) (Ne.symm t5) (Ne.symm t4) (Ne.symm t3) (Ne.symm t2) (Ne.symm t1)
  rw [← e, ← hd]
end Go.Proofs.Ytknefgdcnacfoaa
