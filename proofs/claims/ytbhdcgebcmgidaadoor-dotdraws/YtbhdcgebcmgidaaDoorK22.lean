/-
  Some texts of this seat, one behind the other.
-/
import Derived.Below
import Derived.LoopIn
import Derived.LoopNIn
import Derived.Orders
import Derived.OwnWalkIn
import Derived.RangeFuncBound
import Derived.RangeFuncLeaves
import Derived.RangeFuncNested
import Derived.Shelf.Abstract
import Derived.Shelf.RegionOpen
import Derived.TacticsInMore
import Derived.WalkKit
import Derived.Test.YtbhdcgebcmgidaaDoorK1
/-
  A statement whose order of evaluation is open, each operation of which writes a slot of its own and leaves the old memory: what each yields holds at the end.
-/
namespace Go.Proofs.YtbhdcgebcmgidaaDoor
open Go.RowKit

theorem wpAny_invZ {P : Program} {md : Region.Mode} {ops : Array Oper} {Q : Exit → Act → World → Prop} (I : Nat → Array Bool → Act → World → Prop)
    (h0 : ∀ L a w, I 0 L a w → Region.ready md ops L = [] ∧ Q .normal a w)
    (h1 : ∀ f L a w, I (f + 1) L a w → (Region.ready md ops L = [] → Q .normal a w) ∧ ∀ i ∈ Region.ready md ops L, wpOp P ops Q i (I f (L.setIfInBounds i true)) a w) :
    ∀ f L a w, I f L a w → wpAny P md ops Q f L a w
  | 0, L, a, w, h => h0 L a w h
  | f + 1, L, a, w, h => ⟨(h1 f L a w h).1, fun i hi => wpOp_mono (fun a' w' h' => wpAny_invZ I h0 h1 f _ a' w' h') ((h1 f L a w h).2 i hi)⟩
theorem ev_neZ {a : Act} {d t : Nat} {v : Value} (h : t ≠ d) : (a.put (some d) v).eval (.tmp t) = a.eval (.tmp t) := by
  simp [Act.put, Act.eval, Array.getElem?_setIfInBounds_ne (Ne.symm h)]
theorem ev_sameZ {a : Act} {d : Nat} {v : Value} (h : d < a.tmps.size) : (a.put (some d) v).eval (.tmp d) = v := by
  simp [Act.put, Act.eval, h]
/-- Has operation k come? -/
def lz (L : Array Bool) (k : Nat) : Bool := L.getD k false
theorem lz_set {L : Array Bool} {i k : Nat} (hi : i < L.size) : lz (L.setIfInBounds i true) k = (decide (k = i) || lz L k) := by
  unfold lz
  by_cases c : k = i
  · subst c; simp [hi]
  · simp [Array.getElem?_setIfInBounds_ne (Ne.symm c), c]
theorem lz_of {L : Array Bool} {i : Nat} (hi : i < L.size) (h : L.getD i true = false) : lz L i = false := by
  unfold lz
  simp only [Array.getD_eq_getD_getElem?] at h ⊢
  rw [Array.getElem?_eq_getElem hi] at h ⊢
  simpa using h
def cz (L : Array Bool) : Nat → Nat
  | 0 => 0
  | k + 1 => cz L k + (lz L k).toNat
theorem cz_le (L : Array Bool) : ∀ k, cz L k ≤ k
  | 0 => Nat.le_refl _
  | k + 1 => by have := cz_le L k; unfold cz; cases lz L k <;> simp <;> omega
theorem cz_all {L : Array Bool} : ∀ n, cz L n = n → ∀ k, k < n → lz L k = true
  | n + 1, h, k, hk => by
    have h1 := cz_le L n
    unfold cz at h
    cases c : lz L n
    · rw [c] at h; simp at h; omega
    · rw [c] at h
      rcases Nat.lt_or_ge k n with h2 | h2
      · exact cz_all n (by simpa using h) k h2
      · rw [show k = n by omega]; exact c
theorem cz_full {L : Array Bool} : ∀ n, (∀ k, k < n → lz L k = true) → cz L n = n
  | 0, _ => rfl
  | n + 1, h => by unfold cz; rw [cz_full n fun k hk => h k (by omega), h n (by omega)]; rfl
theorem cz_set {L : Array Bool} {i : Nat} (hi : i < L.size) (hl : lz L i = false) : ∀ n, cz (L.setIfInBounds i true) n = cz L n + (if i < n then 1 else 0)
  | 0 => rfl
  | n + 1 => by
    unfold cz
    rw [cz_set hi hl n, lz_set hi]
    rcases Nat.lt_trichotomy i n with h | h | h
    · rw [if_pos h, if_pos (by omega)]; simp [show n ≠ i by omega]; omega
    · subst h; rw [if_neg (by omega), if_pos (by omega), hl]; simp
    · rw [if_neg (by omega), if_neg (by omega)]; simp [show n ≠ i by omega]
theorem cz_none (m : Nat) : ∀ n, cz (Array.replicate m false) n = 0
  | 0 => rfl
  | n + 1 => by
    unfold cz
    rw [cz_none m n]
    have : lz (Array.replicate m false) n = false := by
      unfold lz
      rw [Array.getD_eq_getD_getElem?, Array.getElem?_replicate]
      split <;> rfl
    rw [this]; rfl

/-- What holds at every point. -/
structure EInv (a0 : Act) (w0 : World) (n : Nat) (d : Nat → Nat) (T : Nat → Value → World → Prop) (D : Nat → Prop) (a : Act) (w : World) : Prop where
  bl : Below w0.heap.size w0 w
  sz : a.tmps.size = a0.tmps.size
  df : a.defers = a0.defers
  ag : ∀ t, (∀ j, j < n → d j ≠ t) → a.eval (.tmp t) = a0.eval (.tmp t)
  vs : ∀ i, i < n → D i → T i (a.eval (.tmp (d i))) w

theorem wpOp_inZ {P : Program} {ops : Array Oper} {Q : Exit → Act → World → Prop} {i : Nat} {o : Oper} {K : Act → World → Prop} {a : Act} {w : World} (ho : ops[i]? = some o) (hg : o.guard = none) (h : o.wp P a w K Q) : wpOp P ops Q i K a w := by
  unfold wpOp
  rw [ho]
  have : Region.wanted o (yielded ops a.tmps) = true := by simp [Region.wanted, hg]
  simp only [this, if_true]
  exact .inl h
theorem wp_valueZ {P : Program} {Q : Exit → Act → World → Prop} {o : Oper} {K : Act → World → Prop} {a : Act} {w w' : World} {v : Value} (e : (execOp a.eval o).run P w = .ok (.value v) w') (h : K (a.put o.dst v) w') : o.wp P a w K Q := by
  unfold Oper.wp; rw [e]; exact h
theorem wp_enterZ {P : Program} {Q : Exit → Act → World → Prop} {o : Oper} {K : Act → World → Prop} {a : Act} {w : World} {f : Nat} {vs : Array Value} {R : Ending → World → Prop} (e : (execOp a.eval o).run P w = .ok (.enter f vs) w) (hc : Calls P f vs w R) (h : ∀ e w', R e w' → ∃ v, e = .returned v ∧ K (a.put o.dst v) w') : o.wp P a w K Q := by
  unfold Oper.wp
  rw [e, Oper.upon_enter]
  refine hc.mono fun e w' r => ?_
  obtain ⟨v, rfl, hk⟩ := h e w' r
  exact hk
theorem run_call1 {P : Program} {a : Act} {o : Oper} {f : Nat} {x : Operand} {ts : Array TypeId} {u : Value} {w : World} (ho : o.op = .call { callee := .value (.func f), args := #[x], argTypes := ts }) (hen : ∀ args w, (callFunc f args).run P w = .ok (.enter f args) w) (hx : a.eval x = u) : (execOp a.eval o).run P w = .ok (.enter f #[u]) w := by
  have ef : a.eval (.func f) = .func (.func f) #[] #[] := rfl
  simp [execOp, ho, ef, hx, resolve, invoke, Deferred.ofValue, hen]
theorem run_call2Z {P : Program} {a : Act} {o : Oper} {f : Nat} {x y : Operand} {ts : Array TypeId} {u v : Value} {w : World} (ho : o.op = .call { callee := .value (.func f), args := #[x, y], argTypes := ts }) (hen : ∀ args w, (callFunc f args).run P w = .ok (.enter f args) w) (hx : a.eval x = u) (hy : a.eval y = v) : (execOp a.eval o).run P w = .ok (.enter f #[u, v]) w := by
  have ef : a.eval (.func f) = .func (.func f) #[] #[] := rfl
  simp [execOp, ho, ef, hx, hy, resolve, invoke, Deferred.ofValue, hen]
theorem run_callv {P : Program} {a : Act} {o : Oper} {c x : Operand} {ts : Array TypeId} {f : Nat} {lb : Array Value} {u : Value} {w : World} (ho : o.op = .call { callee := .value c, args := #[x], argTypes := ts }) (hc : a.eval c = .func (.func f) #[] lb) (hen : ∀ args w, (callFunc f args).run P w = .ok (.enter f args) w) (hx : a.eval x = u) : (execOp a.eval o).run P w = .ok (.enter f (#[u] ++ lb)) w := by
  simp [execOp, ho, hc, hx, resolve, invoke, Deferred.ofValue, hen]

theorem wp_region_vals {P : Program} {ops : Array Oper} {Q : Exit → Act → World → Prop} {id : Nat} (hm : P.follows .mixedOrders = true) (a0 : Act) (w0 : World) (n : Nat) (d : Nat → Nat) (T : Nat → Value → World → Prop)
    (hn : ops.size = n) (hT : ∀ i v W W', T i v W → Below W.heap.size W W' → T i v W')
    (hd : ∀ i, i < n → ∀ j, j < n → d i = d j → i = j) (hdb : ∀ i, i < n → d i < a0.tmps.size)
    (hdst : ∀ i o, ops[i]? = some o → o.dst = some (d i) ∧ o.guard = none ∧ ∀ e ∈ o.after, Region.binds .any e = true → e.on < i)
    (hop : ∀ i o, ops[i]? = some o → ∀ a W, EInv a0 w0 n d T (fun _ => False) a W → (∀ e ∈ o.after, Region.binds .any e = true → T e.on (a.eval (.tmp (d e.on))) W) →
      ∀ K : Act → World → Prop, (∀ v W', Below W.heap.size W W' → T i v W' → K (a.put (some (d i)) v) W') → o.wp P a W K Q)
    (fin : ∀ a W, EInv a0 w0 n d T (fun _ => True) a W → Q .normal a W) : (Code.region id ops true).wp P Q a0 w0 := by
  refine wp_region_any hm (wpAny_invZ (fun f L a w => L.size = n ∧ f + cz L n = n ∧ EInv a0 w0 n d T (fun i => lz L i = true) a w) ?_ ?_ ops.size _ a0 _ ?_)
  · rintro L a w ⟨hs, hc, h⟩
    have hall := cz_all (L := L) n (by omega)
    refine ⟨List.eq_nil_iff_forall_not_mem.2 fun i hi => ?_, fin a w ⟨h.bl, h.sz, h.df, h.ag, fun i hi _ => h.vs i hi (hall i hi)⟩⟩
    rw [mem_ready] at hi
    obtain ⟨hl, o, ho, _⟩ := hi
    have hin : i < n := by rw [← hn]; exact (Array.getElem?_eq_some_iff.1 ho).1
    have := lz_of (by omega) hl
    rw [hall i hin] at this; cases this
  · rintro f L a w ⟨hs, hc, h⟩
    refine ⟨fun hr => ?_, fun i hi => ?_⟩
    · have hall : ∀ k, k < n → lz L k = true := by
        intro k
        induction k using Nat.strongRecOn with
        | ind k ih =>
          intro hk
          cases hl : lz L k
          · exfalso
            have ho : ops[k]? = some ops[k] := Array.getElem?_eq_getElem (by omega)
            have : k ∈ Region.ready .any ops L := mem_ready.2 ⟨by
              unfold lz at hl
              simp only [Array.getD_eq_getD_getElem?] at hl ⊢
              rw [Array.getElem?_eq_getElem (by omega)] at hl ⊢
              simpa using hl, _, ho, fun e he hb => by
                have h1 := (hdst k _ ho).2.2 e he hb
                have h2 := ih e.on h1 (by omega)
                unfold lz at h2
                exact h2⟩
            rw [hr] at this; cases this
          · rfl
      have := cz_full n hall
      omega
    · rw [mem_ready] at hi
      obtain ⟨hl, o, ho, haft⟩ := hi
      have hin : i < n := by rw [← hn]; exact (Array.getElem?_eq_some_iff.1 ho).1
      have hli := lz_of (L := L) (by omega) hl
      have hiL : i < L.size := by omega
      obtain ⟨hdi, hg, hlt⟩ := hdst i o ho
      refine wpOp_inZ ho hg (hop i o ho a w ⟨h.bl, h.sz, h.df, h.ag, fun _ _ c => c.elim⟩ (fun e he hb => h.vs e.on (by have := hlt e he hb; omega) (haft e he hb)) _ fun v W' hb hv => ?_)
      refine ⟨by simp [hs], by rw [cz_set hiL hli n, if_pos hin]; omega, h.bl.trans (hb.mono h.bl.size), by rw [← h.sz]; simp [Act.put], h.df, fun t ht => ?_, fun j hj hlj => ?_⟩
      · rw [ev_neZ (fun e => ht i hin e.symm)]; exact h.ag t ht
      · rw [lz_set hiL] at hlj
        by_cases c : j = i
        · subst c; rw [ev_sameZ (by rw [h.sz]; exact hdb j hj)]; exact hv
        · rw [ev_neZ (fun e => c (hd j hj i hin e))]
          exact hT j _ w W' (h.vs j hj (by simpa [c] using hlj)) hb
  · refine ⟨by simp [hn], by rw [cz_none]; omega, ⟨Below.drew (Below.refl _ _), rfl, rfl, fun _ _ => rfl, fun i _ hl => ?_⟩⟩
    unfold lz at hl
    rw [Array.getD_eq_getD_getElem?, Array.getElem?_replicate] at hl
    split at hl <;> cases hl

/-- The same where one last operation, which waits for all others, ends the statement. -/
theorem wp_region_last {P : Program} {ops : Array Oper} {Q : Exit → Act → World → Prop} {id : Nat} (hm : P.follows .mixedOrders = true) (a0 : Act) (w0 : World) (n : Nat) (d : Nat → Nat) (T : Nat → Value → World → Prop) (R : Act → World → Prop) (ol : Oper)
    (hn : ops.size = n + 1) (hol : ops[n]? = some ol) (hgl : ol.guard = none) (hal : ∀ k, k < n → ∃ e ∈ ol.after, e.on = k ∧ Region.binds .any e = true) (hal2 : ∀ e ∈ ol.after, Region.binds .any e = true → e.on < n)
    (hT : ∀ i v W W', T i v W → Below W.heap.size W W' → T i v W')
    (hd : ∀ i, i < n → ∀ j, j < n → d i = d j → i = j) (hdb : ∀ i, i < n → d i < a0.tmps.size)
    (hdst : ∀ i o, i < n → ops[i]? = some o → o.dst = some (d i) ∧ o.guard = none ∧ ∀ e ∈ o.after, Region.binds .any e = true → e.on < i)
    (hop : ∀ i o, i < n → ops[i]? = some o → ∀ a W, EInv a0 w0 n d T (fun _ => False) a W → (∀ e ∈ o.after, Region.binds .any e = true → T e.on (a.eval (.tmp (d e.on))) W) →
      ∀ K : Act → World → Prop, (∀ v W', Below W.heap.size W W' → T i v W' → K (a.put (some (d i)) v) W') → o.wp P a W K Q)
    (hlast : ∀ a W, EInv a0 w0 n d T (fun _ => True) a W → ∀ K : Act → World → Prop, (∀ a' W', R a' W' → K a' W') → ol.wp P a W K Q)
    (fin : ∀ a W, R a W → Q .normal a W) : (Code.region id ops true).wp P Q a0 w0 := by
  refine wp_region_any hm (wpAny_invZ (fun f L a w => L.size = n + 1 ∧ f + cz L (n + 1) = n + 1 ∧ ((lz L n = false ∧ EInv a0 w0 n d T (fun i => lz L i = true) a w) ∨ (cz L (n + 1) = n + 1 ∧ R a w))) ?_ ?_ ops.size _ a0 _ ?_)
  · rintro L a w ⟨hs, hc, h⟩
    have hall := cz_all (L := L) (n + 1) (by omega)
    rcases h with ⟨h1, -⟩ | ⟨-, hR⟩
    · rw [hall n (by omega)] at h1; cases h1
    refine ⟨List.eq_nil_iff_forall_not_mem.2 fun i hi => ?_, fin a w hR⟩
    rw [mem_ready] at hi
    obtain ⟨hl, o, ho, _⟩ := hi
    have hin : i < n + 1 := by rw [← hn]; exact (Array.getElem?_eq_some_iff.1 ho).1
    have := lz_of (by omega) hl
    rw [hall i hin] at this; cases this
  · rintro f L a w ⟨hs, hc, h⟩
    rcases h with ⟨h0, h⟩ | ⟨h1, hR⟩
    rotate_left
    · omega
    refine ⟨fun hr => ?_, fun i hi => ?_⟩
    · exfalso
      have hall : ∀ k, k < n + 1 → lz L k = true := by
        intro k
        induction k using Nat.strongRecOn with
        | ind k ih =>
          intro hk
          cases hl : lz L k
          · exfalso
            have ho : ops[k]? = some ops[k] := Array.getElem?_eq_getElem (by omega)
            have hlt : ∀ e ∈ (ops[k]).after, Region.binds .any e = true → e.on < k := by
              by_cases c : k = n
              · subst c
                have : ops[k] = ol := Option.some.inj (ho.symm.trans hol)
                rw [this]; exact hal2
              · exact (hdst k _ (by omega) ho).2.2
            have : k ∈ Region.ready .any ops L := mem_ready.2 ⟨by
              unfold lz at hl
              simp only [Array.getD_eq_getD_getElem?] at hl ⊢
              rw [Array.getElem?_eq_getElem (by omega)] at hl ⊢
              simpa using hl, _, ho, fun e he hb => by
                have h1 := hlt e he hb
                have h2 := ih e.on h1 (by omega)
                unfold lz at h2
                exact h2⟩
            rw [hr] at this; cases this
          · rfl
      rw [hall n (by omega)] at h0; cases h0
    · rw [mem_ready] at hi
      obtain ⟨hl, o, ho, haft⟩ := hi
      have hin : i < n + 1 := by rw [← hn]; exact (Array.getElem?_eq_some_iff.1 ho).1
      have hli := lz_of (L := L) (by omega) hl
      have hiL : i < L.size := by omega
      by_cases c : i = n
      · subst c
        obtain rfl : o = ol := Option.some.inj (ho.symm.trans hol)
        have hall : ∀ k, k < i → lz L k = true := fun k hk => by
          obtain ⟨e, he, rfl, hb⟩ := hal k hk
          exact haft e he hb
        have hci := cz_full i hall
        have hc2 : cz L (i + 1) = i := by
          show cz L i + (lz L i).toNat = i
          rw [hci, hli]; rfl
        refine wpOp_inZ ho hgl (hlast a w ⟨h.bl, h.sz, h.df, h.ag, fun j hj _ => h.vs j hj (hall j hj)⟩ _ fun a' W' hR => ?_)
        have hcs := cz_set hiL hli (i + 1)
        rw [if_pos (by omega)] at hcs
        exact ⟨by simp [hs], by omega, .inr ⟨by omega, hR⟩⟩
      · have hin' : i < n := by omega
        obtain ⟨hdi, hg, hlt⟩ := hdst i o hin' ho
        refine wpOp_inZ ho hg (hop i o hin' ho a w ⟨h.bl, h.sz, h.df, h.ag, fun _ _ c => c.elim⟩ (fun e he hb => h.vs e.on (by have := hlt e he hb; omega) (haft e he hb)) _ fun v W' hb hv => ?_)
        refine ⟨by simp [hs], by rw [cz_set hiL hli (n + 1), if_pos hin]; omega, .inl ⟨by rw [lz_set hiL, h0]; simp; omega, h.bl.trans (hb.mono h.bl.size), by rw [← h.sz]; simp [Act.put], h.df, fun t ht => ?_, fun j hj hlj => ?_⟩⟩
        · rw [ev_neZ (fun e => ht i hin' e.symm)]; exact h.ag t ht
        · rw [lz_set hiL] at hlj
          by_cases c : j = i
          · subst c; rw [ev_sameZ (by rw [h.sz]; exact hdb j hj)]; exact hv
          · rw [ev_neZ (fun e => c (hd j hj i hin' e))]
            exact hT j _ w W' (h.vs j hj (by simpa [c] using hlj)) hb
  · refine ⟨by simp [hn], by rw [cz_none]; omega, .inl ⟨?_, Below.drew (Below.refl _ _), rfl, rfl, fun _ _ => rfl, fun i _ hl => ?_⟩⟩
    · unfold lz
      rw [Array.getD_eq_getD_getElem?, Array.getElem?_replicate]
      split <;> rfl
    · unfold lz at hl
      rw [Array.getD_eq_getD_getElem?, Array.getElem?_replicate] at hl
      split at hl <;> cases hl

end Go.Proofs.YtbhdcgebcmgidaaDoor

/-
  A range over a function whose iterator gives known texts one by one, each round of which goes on: a law for the statement over iterators that range themselves.
-/
namespace Go.Proofs.YtbhdcgebcmgidaaDoor
open Go.RowKit

/-- What a round keeps: whatever lay below n; every block but B that is no row of element type u. -/
structure Kq (u : TypeId) (B n : Nat) (W W' : World) : Prop where
  bl : Below n W W'
  nb : ∀ k, k < W.heap.size → k ≠ B → (∀ cs f, W.heap[k]? ≠ some (.cells cs u f)) → W'.heap[k]? = W.heap[k]?
theorem Kq.refl (u : TypeId) (B n : Nat) (W : World) : Kq u B n W W := ⟨Below.refl _ _, fun _ _ _ _ => rfl⟩
theorem Kq.trans {u : TypeId} {B n : Nat} {X Y Z : World} (h : Kq u B n X Y) (k : Kq u B n Y Z) : Kq u B n X Z :=
  ⟨h.bl.trans k.bl, fun i hi hB hu => by
    have e := h.nb i hi hB hu
    rw [k.nb i (Nat.lt_of_lt_of_le hi h.bl.size) hB (by rw [e]; exact hu), e]⟩
theorem Kq.of_below {u : TypeId} {B n : Nat} {W W' : World} (h : Below W.heap.size W W') (hn : n ≤ W.heap.size) : Kq u B n W W' := ⟨h.mono hn, fun k hk _ _ => h.block k hk⟩

/-- What an iterator that was called in a world of N blocks may do to its caller's: all that lay ahead, and all cells, stay. -/
structure Sq (N : Nat) (W W' : World) : Prop where
  os : W'.os = W.os
  tape : W'.tape = W.tape
  output : W'.output = W.output
  size : W.heap.size ≤ W'.heap.size
  block : ∀ k, k < W.heap.size → (k < N ∨ ∃ o : Obj, W.heap[k]? = some o ∧ o.isCells = true) → W'.heap[k]? = W.heap[k]?
theorem Sq.of_below {N : Nat} {W W' : World} (h : Below W.heap.size W W') : Sq N W W' := ⟨h.os, h.tape, h.output, h.size, fun k hk _ => h.block k hk⟩
theorem Sq.mono {N N' : Nat} {W W' : World} (h : Sq N W W') (hN : N' ≤ N) : Sq N' W W' := ⟨h.os, h.tape, h.output, h.size, fun k hk c => h.block k hk (c.imp (fun x => Nat.lt_of_lt_of_le x hN) id)⟩
theorem Sq.putObj {N : Nat} {W : World} {l : Nat} {o : Obj} (o' : Obj) (hN : N ≤ l) (hl : W.heap[l]? = some o) (ho : o.isCells = false) : Sq N W (W.putObj l o') :=
  ⟨rfl, rfl, rfl, by simp, fun k _ c => World.putObj_heap_other (by
    rintro rfl
    rcases c with c | ⟨o2, h2, c2⟩
    · omega
    · rw [hl] at h2; cases h2; rw [ho] at c2; cases c2)⟩
def Ab (N : Nat) (J : Nat → World → Prop) : Prop := ∀ i W W', J i W → Sq N W W' → J i W'
theorem Ab.mono {N N' : Nat} {J : Nat → World → Prop} (h : Ab N J) (hN : N ≤ N') : Ab N' J := fun i W W' hj hs => h i W W' hj (hs.mono hN)
theorem Ab.and {N : Nat} {J J' : Nat → World → Prop} (h : Ab N J) (h' : Ab N J') : Ab N (fun i W => J i W ∧ J' i W) := fun i W W' hj hs => ⟨h i W W' hj.1 hs, h' i W W' hj.2 hs⟩
/-- A block that is known stays. -/
theorem Sq.keep {N : Nat} {W W' : World} {k : Nat} {o : Obj} (h : Sq N W W') (hk : W.heap[k]? = some o) (c : k < N ∨ o.isCells = true) : W'.heap[k]? = some o :=
  (h.block k (Array.getElem?_eq_some_iff.1 hk).1 (c.imp id fun x => ⟨o, hk, x⟩)).trans hk
theorem Kq.keep {u : TypeId} {B n : Nat} {W W' : World} {k : Nat} {o : Obj} (h : Kq u B n W W') (hk : W.heap[k]? = some o) (hB : k ≠ B) (hu : ∀ cs f, o ≠ .cells cs u f) : W'.heap[k]? = some o :=
  (h.nb k (Array.getElem?_eq_some_iff.1 hk).1 hB fun cs f e => hu cs f (by rw [hk] at e; exact Option.some.inj e)).trans hk
theorem Kq.sq {u : TypeId} {B n N : Nat} {w W W' : World} (h : Kq u B n w W) (s : Sq N W W') (hN : w.heap.size ≤ N) (hn : n ≤ w.heap.size) : Kq u B n w W' := by
  have st : ∀ k, k < w.heap.size → W'.heap[k]? = W.heap[k]? := fun k hk => s.block k (Nat.lt_of_lt_of_le hk h.bl.size) (.inl (by omega))
  exact ⟨⟨s.os.trans h.bl.os, s.tape.trans h.bl.tape, s.output.trans h.bl.output, Nat.le_trans h.bl.size s.size, fun k hk => (st k (by omega)).trans (h.bl.block k hk)⟩, fun k hk hB hu => (st k hk).trans (h.nb k hk hB hu)⟩

/-- The iterator's value gives just these texts, one by one. -/
def Gv (P : Program) (u : TypeId) (B n : Nat) (g : Nat) (lb : Array Value) (xs : List ByteArray) (w : World) : Prop :=
  ∀ (l : Nat) (J : Nat → World → Prop) (W : World), Kq u B n w W → Ab W.heap.size J →
    (∀ i W1, i < xs.length → J i W1 → ∀ m, YieldAt Fence.wide m P l #[.string (xs.getD i ⟨#[]⟩)] W1 fun e W' => e = .returned (.bool true) ∧ J (i + 1) W' ∧ Kq u B n W1 W') →
    J 0 W → ∀ m, CallsIn Fence.wide m P g (#[.func (.yield l) #[] #[]] ++ lb) W fun e W' => (∃ v, e = .returned v) ∧ J xs.length W'
theorem Gv.later {P : Program} {u : TypeId} {B n g : Nat} {lb : Array Value} {xs : List ByteArray} {w w' : World} (h : Gv P u B n g lb xs w) (k : Kq u B n w w') : Gv P u B n g lb xs w' :=
  fun l J W hW hJ hY h0 m => h l J W (k.trans hW) hJ hY h0 m

/-- How a round's body is left: it goes on. -/
def rfPost (I : World → Prop) (u : TypeId) (B n : Nat) (W : World) : Exit → Act → World → Prop
  | .normal, _, W' => I W' ∧ Kq u B n W W'
  | _, _, _ => False

theorem rf_law {P : Program} {u : TypeId} {B n m : Nat} {g : Operand} {ps : Array Tmp} {assign body : Code} {Q : Exit → Act → World → Prop} {a : Act} {w w0 : World} {gf : Nat} {lb : Array Value} {xs : List ByteArray}
    (hg : a.eval g = .func (.func gf) #[] lb) (eg : ∀ args w, (callFunc gf args).run P w = .ok (.enter gf args) w)
    (hseq : Gv P u B n gf lb xs w0) (hb0 : Kq u B n w0 w) (hn : n ≤ w.heap.size) (hB : B < w.heap.size) (hps : ps.size = 1)
    (I : Nat → World → Prop) (hI : Ab w.heap.size I) (h0 : I 0 w) (a₁ : Value → Act)
    (hassign : ∀ (m' l : Nat) (v : Value) (W : World) (K : Act → World → Prop), K (a₁ v) W →
      assign.wpIn (Fence.wide.inRound l) m' P (Exit.then K (fun _ _ _ => False)) { tmps := (ps.zip #[v]).foldl (fun t (p, v) => t.setIfInBounds p v) a.tmps, defers := [] } W)
    (hbody : ∀ (m' l i : Nat) (W : World), i < xs.length → I i W → body.wpIn (Fence.wide.inRound l) m' P (rfPost (I (i + 1)) u B n W) (a₁ (.string (xs.getD i ⟨#[]⟩))) W)
    (hdone : ∀ (D : Nat) (W : World), w.heap.size ≤ D → I xs.length W → W.heap[D]? = some (.deferred (some [])) → Q .normal { a with defers := { target := .collected D, args := #[] } :: a.defers } W) :
    (Code.rangeFunc g ps assign body).wpIn Fence.wide m P Q a w := by
  refine wpIn_rangeFunc fun fn hfn => ?_
  obtain ⟨rd, hrd⟩ : ∃ rd : LoopState → Loop, rd = fun st => { state := st, pending := none, fn, tmps := a.tmps, params := ps, assign, body, defers := w.heap.size } := ⟨_, rfl⟩
  obtain ⟨W1, hW1⟩ : ∃ W1, (w.alloc (.deferred (some []))).alloc (.loop (rd .ready)) = W1 := ⟨_, rfl⟩
  have hz : W1.heap.size = w.heap.size + 1 + 1 := by rw [← hW1]; simp
  have hg1 : Below w.heap.size w W1 := by rw [← hW1]; exact ((Below.refl _ w).alloc (Nat.le_refl _) _).alloc (by simp) _
  have hL1 : W1.heap[w.heap.size + 1]? = some (.loop (rd .ready)) := by
    rw [← hW1]; have := World.alloc_heap_new (w.alloc (.deferred (some []))) (.loop (rd .ready)); rwa [World.size_alloc] at this
  have hK1 : W1.heap[w.heap.size]? = some (.deferred (some [])) := by
    rw [← hW1]; exact (Below.heap_alloc _ _ _ (by simp)).trans (World.alloc_heap_new w _)
  refine ⟨w.heap.size + 1, [{ target := .collected w.heap.size, args := #[] }], W1, { target := .fn (.func gf) lb, args := #[.func (.yield (w.heap.size + 1)) #[] #[]] }, W1, gf,
    #[.func (.yield (w.heap.size + 1)) #[] #[]] ++ lb, W1, ?_, ?_, fun _ _ => trivial, ?_, fun h => (by simp [Fence.wide] at h), ?_⟩
  · rw [← hW1, hrd]; exact run_enterLoop_outer _ _ _ _ _
  · simp only [resolve, hg]
    simp [go_sem]
  · simp [invoke, go_sem, eg]
  refine (hseq (w.heap.size + 1)
    (fun i W => I i W ∧ W.heap[w.heap.size + 1]? = some (.loop (rd .ready)) ∧ W.heap[w.heap.size]? = some (.deferred (some [])))
    W1 (hb0.trans (.of_below hg1 hn)) ?_ ?_ ⟨hI _ _ _ h0 (.of_below hg1), hL1, hK1⟩ _).mono ?_
  · exact fun i W W' hs hq => ⟨hI i W W' hs.1 (hq.mono (by omega)), hq.keep hs.2.1 (.inl (by omega)), hq.keep hs.2.2 (.inl (by omega))⟩
  · -- one round
    rintro i W hi ⟨hi1, hl, hk⟩ m'
    have hlt : w.heap.size + 1 < W.heap.size := (Array.getElem?_eq_some_iff.1 hl).1
    have hy := run_yield (P := P) (args := #[.string (xs.getD i ⟨#[]⟩)]) hl (by rw [hrd]; exact hps.symm)
    rw [hrd] at hy
    refine ⟨fn, _, assign, body, hy, roundIn_of_wpIn hfn (hassign _ _ _ W _ ⟨_, run_beginRound hl (by rw [hrd]), ?_⟩)⟩
    clear hy
    obtain ⟨W2, hW2⟩ : ∃ W2, W.putObj (w.heap.size + 1) (.loop { rd .ready with state := .busy }) = W2 := ⟨_, rfl⟩
    have hl2 : W2.heap[w.heap.size + 1]? = some (.loop { rd .ready with state := .busy }) := by rw [← hW2]; exact World.putObj_heap_same hlt
    have ho2 : ∀ k, k ≠ w.heap.size + 1 → W2.heap[k]? = W.heap[k]? := fun k hk => by rw [← hW2]; exact World.putObj_heap_other hk
    have hs2 : Sq w.heap.size W W2 := by rw [← hW2]; exact Sq.putObj _ (by omega) hl rfl
    have hz2 : W2.heap.size = W.heap.size := by rw [← hW2]; simp
    rw [hW2]
    refine wpIn_mono (hbody _ _ i W2 hi (hI _ _ _ hi1 hs2)) ?_
    rintro e a3 W3 hp
    cases e with
    | normal =>
      obtain ⟨hi3, hk3⟩ := hp
      have hl3 : W3.heap[w.heap.size + 1]? = some (.loop { rd .ready with state := .busy }) := hk3.keep hl2 (by omega) (by intro cs f; simp)
      have hend := run_endRound (P := P) none hl3
      refine ⟨_, _, hend, rfl, ⟨hI _ _ _ hi3 (Sq.putObj _ (by omega) hl3 rfl), ?_, ?_⟩, ?_⟩
      · rw [World.putObj_heap_same (Array.getElem?_eq_some_iff.1 hl3).1, hrd]; rfl
      · rw [World.putObj_heap_other (by omega)]
        exact hk3.keep ((ho2 _ (by omega)).trans hk) (by omega) (by intro cs f; simp)
      · refine ⟨⟨hk3.bl.os.trans hs2.os, hk3.bl.tape.trans hs2.tape, hk3.bl.output.trans hs2.output, ?_, fun k hk => ?_⟩, fun k hk hkB hu => ?_⟩
        · have := hk3.bl.size; rw [hz2] at this; simpa using this
        · rw [World.putObj_heap_other (by omega), hk3.bl.block k hk, ho2 k (by omega)]
        · by_cases c : k = w.heap.size + 1
          · subst c; rw [World.putObj_heap_same (Array.getElem?_eq_some_iff.1 hl3).1, hl, hrd]; rfl
          · rw [World.putObj_heap_other c, hk3.nb k (by omega) hkB (by rw [ho2 k c]; exact hu), ho2 k c]
    | ret => exact hp.elim
    | exit id => exact hp.elim
    | goto t => exact hp.elim
    | panic ch => exact hp.elim
    | outgrown => exact hp.elim
  · -- behind the iterator
    rintro e W2 ⟨⟨v, rfl⟩, hi, hl, hk⟩
    refine ⟨none, _, by have := run_endLoop (P := P) hl (by rw [hrd]; simp); rw [hrd] at this; exact this, ?_⟩
    exact hdone _ _ (Nat.le_refl _) (hI _ _ _ hi (Sq.putObj _ (by omega) hl rfl)) ((World.putObj_heap_other (by omega)).trans hk)

end Go.Proofs.YtbhdcgebcmgidaaDoor

/-
  The program's iterators of texts: those of a slice's texts; those that a function tells of the numbers below one.
-/
namespace Go.Proofs.YtbhdcgebcmgidaaDoor
open Go.RowKit Go.Shelf

attribute [local go_sem] Oper.semAt_some

/-- Block k holds just these cells of that type. -/
def Bk (w : World) (k : Nat) (cs : List Value) (t : TypeId) : Prop := w.heap[k]? = some (.cells cs.toArray t (0, 0))
theorem Bk.lt {w : World} {k : Nat} {cs : List Value} {t : TypeId} (h : Bk w k cs t) : k < w.heap.size := (Array.getElem?_eq_some_iff.1 h).1
theorem Bk.cell {w : World} {k : Nat} {cs : List Value} {t : TypeId} (h : Bk w k cs t) (i : Nat) : w.cell? ⟨k, i, none⟩ = cs[i]? := by
  simp [World.cell?, show w.heap[k]? = _ from h]
theorem Bk.kq {w W : World} {u : TypeId} {B n k : Nat} {cs : List Value} {t : TypeId} (h : Bk w k cs t) (q : Kq u B n w W) (hB : k ≠ B) (ht : t ≠ u) : Bk W k cs t :=
  q.keep h hB (by intro c f e; injection e with _ e2 _; exact ht e2)
theorem Bk.sq {w W : World} {N k : Nat} {cs : List Value} {t : TypeId} (h : Bk w k cs t) (q : Sq N w W) : Bk W k cs t := q.keep h (.inr rfl)
theorem Bk.below {w W : World} {k : Nat} {cs : List Value} {t : TypeId} (h : Bk w k cs t) (q : Below w.heap.size w W) : Bk W k cs t := (q.block k h.lt).trans h
theorem Bk.new (w : World) (cs : List Value) (t : TypeId) : Bk (w.alloc (.cells cs.toArray t)) w.heap.size cs t := World.alloc_heap_new w _

/-- A text as a value. -/
def sv (b : ByteArray) : Value := .string b

set_option maxRecDepth 100000 in
set_option maxHeartbeats 2000000 in
theorem values_gv (B n b p : Nat) (xs : List ByteArray) (w : World) (hb : Bk w b [.slice (some ⟨p, 0, none⟩) xs.length xs.length] 47) (hp : Bk w p (xs.map sv) 9) (hbB : b ≠ B) (hpB : p ≠ B) (hl : xs.length ≤ 1000) :
    Gv Tryd.prog 5 B n 59 #[.pointer (some ⟨b, 0, none⟩)] xs w := by
  intro l J W hW hJ hY h0 m
  have hBs := (hb.kq hW hbB (by decide)).cell 0
  have hc : ∀ W', Kq 5 B n w W' → ∀ j, j < xs.length → W'.cell? ⟨p, j, none⟩ = some (.string (xs.getD j ⟨#[]⟩)) := fun W' hq j hj => by
    rw [(hp.kq hq hpB (by decide)).cell j]
    simp [List.getElem?_map, List.getElem?_eq_getElem hj, sv]
  have HC := hide hc
  clear hc
  simp only [List.getElem?_cons_zero] at hBs
  refine callsIn_of_wp Tryd.func59 rfl trivial ?_ rfl
  simp only [Tryd.ntmps59, List.size_toArray, List.length_cons, List.length_nil, Nat.reduceAdd, Nat.reduceSub, Array.replicate_succ, Array.replicate_zero, List.push_toArray, List.append_toArray, List.nil_append, List.cons_append]
  gi_wp2
  gi_loopw [7] (fun i wr => ∃ k : Nat, k ≤ xs.length ∧ i = .int .i64 k ∧ J k wr ∧ Kq 5 B n w wr) (fun i _ => xs.length - (intOf i).toNat)
  case atStart => exact ⟨0, Nat.zero_le _, rfl, h0, hW⟩
  case round =>
    obtain ⟨k, hk, rfl, hJs, hnx⟩ := hrel
    by_cases hlt : k < xs.length
    · have hYk := hY k wr hlt hJs (m - 1)
      have hcx := unhide HC wr hnx k hlt
      obtain ⟨x, hx⟩ : ∃ x, xs.getD k ⟨#[]⟩ = x := ⟨_, rfl⟩
      rw [hx] at hYk hcx
      clear hx
      obtain ⟨fn, tmps, assign, body, hy, hR⟩ := hYk
      gi_wp2
      refine ⟨fun h => (by simp [Fence.wide] at h), hR.mono ?_⟩
      rintro e W3 ⟨rfl, hJ3, hk3⟩
      gi_wp2
      go_roundw
      case rel => exact ⟨k + 1, by omega, by simp, hJ3, hnx.trans hk3⟩
      case measure => simp [intOf]; omega
    · obtain rfl : k = xs.length := by omega
      gi_wp2
      go_end0
      exact ⟨⟨_, rfl⟩, hJs⟩

/-- A function's text of each number below the count, wherever the round's keep holds. -/
def Tells (f : Nat) (rv : Value) (B n : Nat) (xs : List ByteArray) (w : World) : Prop :=
  ∀ W, Kq 5 B n w W → ∀ i, i < xs.length → Calls Tryd.prog f #[rv, .int .i64 (i : Int)] W fun e W' => e = .returned (.string (xs.getD i ⟨#[]⟩)) ∧ Below W.heap.size W W'

set_option maxRecDepth 100000 in
set_option maxHeartbeats 2000000 in
theorem each_gv (B n b c f : Nat) (rv : Value) (xs : List ByteArray) (w : World) (hb : Bk w b [.int .i64 (xs.length : Int)] 3) (hc : Bk w c [.func (.func f) #[rv] #[]] 50) (hbB : b ≠ B) (hcB : c ≠ B) (hn : n ≤ w.heap.size) (hl : xs.length ≤ 1000000)
    (hen : ∀ args w, (callFunc f args).run Tryd.prog w = .ok (.enter f args) w) (ht : Tells f rv B n xs w) :
    Gv Tryd.prog 5 B n 54 #[.pointer (some ⟨b, 0, none⟩), .pointer (some ⟨c, 0, none⟩)] xs w := by
  intro l J W hW hJ hY h0 m
  have hBs := (hb.kq hW hbB (by decide)).cell 0
  have hcs : ∀ W', Kq 5 B n w W' → W'.cell? ⟨c, 0, none⟩ = some (.func (.func f) #[rv] #[]) := fun W' hq => (hc.kq hq hcB (by decide)).cell 0
  simp only [List.getElem?_cons_zero] at hBs
  have HC := hide hcs
  have HT := hide ht
  clear hcs ht
  refine callsIn_of_wp Tryd.func54 rfl trivial ?_ rfl
  simp only [Tryd.ntmps54, List.size_toArray, List.length_cons, List.length_nil, Nat.reduceAdd, Nat.reduceSub, Array.replicate_succ, Array.replicate_zero, List.push_toArray, List.append_toArray, List.nil_append, List.cons_append]
  gi_wp2
  gi_loopw [6] (fun i wr => ∃ k : Nat, k ≤ xs.length ∧ i = .int .i64 k ∧ J k wr ∧ Kq 5 B n w wr) (fun i _ => xs.length - (intOf i).toNat)
  case atStart => exact ⟨0, Nat.zero_le _, rfl, h0, hW⟩
  case round =>
    obtain ⟨k, hk, rfl, hJs, hnx⟩ := hrel
    by_cases hlt : k < xs.length
    · have hcx := unhide HC wr hnx
      have hT := unhide HT wr hnx k hlt
      have HK := hide (fun W2 h => hY k W2 hlt h (m - 1))
      obtain ⟨x, hx⟩ : ∃ x, xs.getD k ⟨#[]⟩ = x := ⟨_, rfl⟩
      rw [hx] at hT HK
      clear hx
      gi_wp2_with fail
      refine ⟨trivial, ?_⟩
      refine ⟨fun h => (by simp [Fence.wide] at h), (callsIn_wide.2 hT).mono ?_⟩
      rintro e W2 ⟨rfl, hb2⟩
      obtain ⟨fn, tmps, assign, body, hy, hR⟩ := unhide HK W2 (hJ _ _ _ hJs (Sq.of_below hb2))
      gi_wp2
      refine ⟨fun h => (by simp [Fence.wide] at h), hR.mono ?_⟩
      rintro e W3 ⟨rfl, hJ3, hk3⟩
      gi_wp2
      go_roundw
      case rel => exact ⟨k + 1, by omega, by simp, hJ3, (hnx.trans (.of_below hb2 (Nat.le_trans hn hnx.bl.size))).trans hk3⟩
      case measure => simp [intOf]; omega
    · obtain rfl : k = xs.length := by omega
      gi_wp2
      go_end0
      exact ⟨⟨_, rfl⟩, hJs⟩

end Go.Proofs.YtbhdcgebcmgidaaDoor

/-
  The iterator that gives what several iterators give, one behind the other.
-/
namespace Go.Proofs.YtbhdcgebcmgidaaDoor
open Go.RowKit Go.Shelf

attribute [local go_sem] Oper.semAt_some

theorem Sq.refl (N : Nat) (W : World) : Sq N W W := ⟨rfl, rfl, rfl, Nat.le_refl _, fun _ _ _ => rfl⟩
theorem Sq.trans {N : Nat} {X Y Z : World} (h : Sq N X Y) (k : Sq N Y Z) : Sq N X Z :=
  ⟨k.os.trans h.os, k.tape.trans h.tape, k.output.trans h.output, Nat.le_trans h.size k.size, fun i hi c => by
    have e := h.block i hi c
    rw [k.block i (Nat.lt_of_lt_of_le hi h.size) (c.imp id fun ⟨o, ho, hc⟩ => ⟨o, by rw [e]; exact ho, hc⟩), e]⟩
def mkD (D : Nat) : Deferred := { target := .collected D, args := #[] }
/-- A function that tells nothing leaves, its marks taken one by one. -/
theorem leave_marks {P : Program} {fn : Func} {tmps : Array Value} {R : Ending → World → Prop} {m N : Nat} (hres : fn.results = #[]) : ∀ (Ds : List Nat) (W : World), Ds.Nodup → (∀ D ∈ Ds, N ≤ D ∧ W.heap[D]? = some (.deferred (some []))) →
    (∀ W', Sq N W W' → R (.returned (.tuple #[])) W') → LeavesInM Fence.wide m P fn tmps R (Ds.map mkD) .returning W
  | [], W, _, _, h => ⟨_, results_none hres _ _ _, h W (Sq.refl _ _)⟩
  | D :: Ds, W, hnd, hD, h => by
    obtain ⟨h1, h2⟩ := List.nodup_cons.1 hnd
    obtain ⟨hN, hk⟩ := hD D (List.mem_cons_self ..)
    have hs : Sq N W (W.putObj D (.deferred none)) := Sq.putObj _ hN hk rfl
    refine ⟨by simp, .inl ⟨D, _, rfl, run_takeDeferred hk, leave_marks hres Ds _ h2 (fun E hE => ?_) fun W' hW' => h W' (hs.trans hW')⟩⟩
    exact ⟨(hD E (List.mem_cons_of_mem _ hE)).1, (World.putObj_heap_other (by rintro rfl; exact h1 hE)).trans (hD E (List.mem_cons_of_mem _ hE)).2⟩

/-- A part: its function, what it holds, what it gives. -/
structure Pt where
  g : Nat
  lb : Array Value
  xs : List ByteArray
def offP (ps : List Pt) (k : Nat) : Nat := ((ps.take k).map Pt.xs).flatten.length
theorem offP_zero (ps : List Pt) : offP ps 0 = 0 := rfl
theorem offP_succ {ps : List Pt} {k : Nat} (h : k < ps.length) : offP ps (k + 1) = offP ps k + ps[k].xs.length := by
  unfold offP
  rw [List.take_add_one, List.getElem?_eq_getElem h]
  simp only [Option.toList_some, List.map_append, List.map_cons, List.map_nil, List.flatten_append, List.flatten_cons, List.flatten_nil, List.append_nil, List.length_append]
theorem offP_all (ps : List Pt) : offP ps ps.length = (ps.map Pt.xs).flatten.length := by unfold offP; rw [List.take_length]
theorem offP_at : ∀ {ps : List Pt} {k i : Nat} (h : k < ps.length) (_ : i < ps[k].xs.length), offP ps k + i < (ps.map Pt.xs).flatten.length ∧ (ps.map Pt.xs).flatten.getD (offP ps k + i) ⟨#[]⟩ = ps[k].xs.getD i ⟨#[]⟩
  | [], k, i, h, _ => by simp at h
  | q :: ps, 0, i, h, hi => by
    simp only [List.getElem_cons_zero] at hi ⊢
    simp only [offP_zero, Nat.zero_add, List.map_cons, List.flatten_cons]
    refine ⟨by simp; omega, ?_⟩
    rw [List.getD_eq_getElem?_getD, List.getD_eq_getElem?_getD, List.getElem?_append_left hi]
  | q :: ps, k + 1, i, h, hi => by
    simp only [List.getElem_cons_succ] at hi ⊢
    obtain ⟨h1, h2⟩ := offP_at (ps := ps) (k := k) (i := i) (by simpa using h) hi
    have e : offP (q :: ps) (k + 1) = q.xs.length + offP ps k := by unfold offP; simp
    rw [e, Nat.add_assoc]
    refine ⟨by simp only [List.map_cons, List.flatten_cons, List.length_append]; omega, ?_⟩
    rw [← h2]
    simp only [List.map_cons, List.flatten_cons]
    rw [List.getD_eq_getElem?_getD, List.getD_eq_getElem?_getD, List.getElem?_append_right (by omega)]
    simp

def ptV (q : Pt) : Value := .func (.func q.g) #[] q.lb

set_option maxRecDepth 100000 in
set_option maxHeartbeats 4000000 in
theorem one_gv (B n b p : Nat) (ps : List Pt) (w : World) (hb : Bk w b [.slice (some ⟨p, 0, none⟩) ps.length ps.length] 81) (hp : Bk w p (ps.map ptV) 66) (hbB : b ≠ B) (hpB : p ≠ B) (hn : n ≤ w.heap.size) (hB : B < w.heap.size) (hl : ps.length ≤ 1000)
    (hg : ∀ q ∈ ps, Gv Tryd.prog 5 B n q.g q.lb q.xs w ∧ ∀ args w, (callFunc q.g args).run Tryd.prog w = .ok (.enter q.g args) w) :
    Gv Tryd.prog 5 B n 52 #[.pointer (some ⟨b, 0, none⟩)] (ps.map Pt.xs).flatten w := by
  intro l J W hW hJ hY h0 m
  have hBs := (hb.kq hW hbB (by decide)).cell 0
  have HC := hide (show ∀ W', Kq 5 B n w W' → ∀ j (hj : j < ps.length), W'.cell? ⟨p, j, none⟩ = some (.func (.func ps[j].g) #[] ps[j].lb) from fun W' hq j hj => by
    rw [(hp.kq hq hpB (by decide)).cell j]
    simp [List.getElem?_map, List.getElem?_eq_getElem hj, ptV])
  simp only [List.getElem?_cons_zero] at hBs
  have hbl : b < W.heap.size := Nat.lt_of_lt_of_le hb.lt hW.bl.size
  have hBs2 : (W.alloc (.cells #[.func (.yield l) #[] #[]] 82)).cell? ⟨b, 0, none⟩ = some (.slice (some ⟨p, 0, none⟩) ps.length ps.length) := by
    rw [← hBs]; exact ((Below.refl _ W).alloc (Nat.le_refl _) _).cell hbl
  have hyb : Bk (W.alloc (.cells #[.func (.yield l) #[] #[]] 82)) W.heap.size [.func (.yield l) #[] #[]] 82 := Bk.new W [.func (.yield l) #[] #[]] _
  have ba : Below W.heap.size W (W.alloc (.cells #[.func (.yield l) #[] #[]] 82)) := (Below.refl _ W).alloc (Nat.le_refl _) _
  refine callsIn_of_wp_marks Tryd.func52 rfl trivial ?_ rfl
  simp only [Tryd.ntmps52, List.size_toArray, List.length_cons, List.length_nil, Nat.reduceAdd, Nat.reduceSub, Array.replicate_succ, Array.replicate_zero, List.push_toArray, List.append_toArray, List.nil_append, List.cons_append]
  gi_wp2
  refine wpIn_loop (fun a' W' => ∃ (k : Nat) (Ds : List Nat) (u3 u4 u5 u9 u10 u11 u12 u13 u14 u15 u16 u17 u18 : Value), a' = { tmps := #[.func (.yield l) #[] #[], .pointer (some ⟨b, 0, none⟩), .pointer (some ⟨W.heap.size, 0, none⟩), u3, u4, u5, .slice (some ⟨p, 0, none⟩) ps.length ps.length, .int .i64 ps.length, .int .i64 (k : Int), u9, u10, u11, u12, u13, u14, u15, u16, u17, u18], defers := Ds.map mkD } ∧
      k ≤ ps.length ∧ Ds.Nodup ∧ (∀ D ∈ Ds, W.heap.size ≤ D ∧ W'.heap[D]? = some (.deferred (some []))) ∧ J (offP ps k) W' ∧ Kq 5 B n w W' ∧ Bk W' W.heap.size [.func (.yield l) #[] #[]] 82)
    (fun a' _ => ps.length - (intOf (a'.tmps.getD 8 undef)).toNat) ?_ ?_
  · exact ⟨0, [], _, _, _, _, _, _, _, _, _, _, _, _, _, rfl, Nat.zero_le _, List.nodup_nil, (by simp), hJ _ _ _ h0 (Sq.of_below ba), hW.trans (.of_below ba (Nat.le_trans hn hW.bl.size)), hyb⟩
  · rintro a' wr ⟨k, Ds, u3, u4, u5, u9, u10, u11, u12, u13, u14, u15, u16, u17, u18, rfl, hk, hnd, hD, hJs, hnx, hbx⟩
    have HD := hide hD
    clear hD
    by_cases hlt : k < ps.length
    · have hcx := unhide HC wr hnx k hlt
      obtain ⟨hgq, heq⟩ := hg ps[k] (List.getElem_mem hlt)
      have hos := offP_succ hlt
      have HA := hide (fun i hi => offP_at (i := i) hlt hi)
      obtain ⟨q, hq⟩ : ∃ q, ps[k] = q := ⟨_, rfl⟩
      rw [hq] at hcx hgq heq hos HA
      clear hq
      gi_wp2
      refine rf_law (gf := q.g) (lb := q.lb) rfl heq hgq hnx (Nat.le_trans hn hnx.bl.size) (Nat.lt_of_lt_of_le hB hnx.bl.size) rfl
        (fun i W' => J (offP ps k + i) W' ∧ Kq 5 B n w W' ∧ Bk W' W.heap.size [.func (.yield l) #[] #[]] 82 ∧ ∀ D ∈ Ds, W.heap.size ≤ D ∧ W'.heap[D]? = some (.deferred (some []))) ?ab ⟨hJs, hnx, hbx, unhide HD⟩
        (fun v => { tmps := #[.func (.yield l) #[] #[], .pointer (some ⟨b, 0, none⟩), .pointer (some ⟨W.heap.size, 0, none⟩), u3, .func (.func q.g) #[] q.lb, v, .slice (some ⟨p, 0, none⟩) ps.length ps.length, .int .i64 ps.length, .int .i64 (k : Int), .bool true, .pointer (some ⟨p, k, none⟩), .func (.func q.g) #[] q.lb, .func (.func q.g) #[] q.lb, v, u14, u15, u16, u17, u18], defers := [] }) ?assign ?body ?done
      case ab =>
        rintro i X Y ⟨h1, h2, h3, h4⟩ hs
        have hz : W.heap.size ≤ wr.heap.size := Nat.le_trans (Nat.le_of_lt hbx.lt) (Nat.le_refl _)
        exact ⟨hJ _ _ _ h1 (hs.mono hz), h2.sq hs hnx.bl.size hn, h3.sq hs, fun D hD => ⟨(h4 D hD).1, hs.keep (h4 D hD).2 (.inl (Array.getElem?_eq_some_iff.1 (unhide HD D hD).2).1)⟩⟩
      case assign =>
        intro m' l' v X K hK
        gi_wp2
        exact hK
      case body =>
        rintro m' l' i X hi ⟨h1, h2, h3, h4⟩
        obtain ⟨hi1, hi2⟩ := unhide HA i hi
        have hYk := hY _ X hi1 h1 (m' - 1)
        rw [hi2] at hYk
        obtain ⟨x, hx⟩ : ∃ x, q.xs.getD i ⟨#[]⟩ = x := ⟨_, rfl⟩
        rw [hx] at hYk ⊢
        clear hx hi2
        obtain ⟨fn, tmps, assign, body, hy, hR⟩ := hYk
        have hcy := h3.cell 0
        simp only [List.getElem?_cons_zero] at hcy
        have H4 := hide h4
        clear h4
        gi_wp2
        refine ⟨fun h => (by simp [Fence.wide] at h), RoundIn.mono (F := Fence.wide.inRound l') hR ?_⟩
        rintro e X3 ⟨rfl, hJ3, hk3⟩
        gi_wp2
        refine ⟨⟨hJ3, h2.trans hk3, h3.kq hk3 (by have := hW.bl.size; omega) (by decide), fun D hD => ⟨(unhide H4 D hD).1, hk3.keep (unhide H4 D hD).2 (by have := (unhide H4 D hD).1; have := hnx.bl.size; have := hW.bl.size; omega) (by intro cs f; simp)⟩⟩, hk3⟩
      case done =>
        rintro D X hD ⟨h1, h2, h3, h4⟩ hK
        have H4 := hide h4
        clear h4
        gi_wp2
        have hz : W.heap.size ≤ wr.heap.size := Nat.le_of_lt hbx.lt
        refine ⟨⟨k + 1, D :: Ds, _, _, _, _, _, _, _, _, _, _, _, _, _, rfl, hlt, List.nodup_cons.2 ⟨fun hm => ?_, hnd⟩, fun E hE => ?_, by rw [hos]; exact h1, h2, h3⟩, ?_⟩
        · have := (Array.getElem?_eq_some_iff.1 (unhide HD D hm).2).1
          omega
        · rcases List.mem_cons.1 hE with rfl | hE
          · exact ⟨by omega, hK⟩
          · exact unhide H4 E hE
        · simp [intOf]; omega
    · obtain rfl : k = ps.length := by omega
      gi_wp2
      refine leave_marks rfl Ds wr hnd (unhide HD) fun W' hs => ⟨⟨_, rfl⟩, ?_⟩
      rw [← offP_all]
      exact hJ _ _ _ hJs hs

end Go.Proofs.YtbhdcgebcmgidaaDoor
