/-
  Some texts of this seat, one behind the other.
-/
import Derived.Below
import Derived.Orders
import Derived.Shelf.Abstract
import Derived.Test.YtlcablkhomnieaaK1
/-
  A statement whose order of evaluation is open, each operation of which writes a slot of its own and leaves the old memory: what each yields holds at the end.
-/
namespace Go.Proofs.Ytlcablkhomnieaa
open Go.RowKit

theorem wpAny_invZ {P : Program} {md : Region.Mode} {ops : Array Oper} {Q : Exit → Act → World → Prop} (I : Nat → Array Bool → Act → World → Prop)
    (h0 : ∀ L a w, I 0 L a w → Region.ready md ops L = [] ∧ Q .normal a w)
    (h1 : ∀ f L a w, I (f + 1) L a w → (Region.ready md ops L = [] → Q .normal a w) ∧ ∀ i ∈ Region.ready md ops L, wpOp P ops Q i (I f (L.setIfInBounds i true)) a w) :
    ∀ f L a w, I f L a w → wpAny P md ops Q f L a w
  | 0, L, a, w, h => h0 L a w h
  | f + 1, L, a, w, h => ⟨(h1 f L a w h).1, fun i hi => wpOp_mono (fun a' w' h' => wpAny_invZ I h0 h1 f _ a' w' h') ((h1 f L a w h).2 i hi)⟩
theorem ev_neZ {a : Act} {d t : Nat} {v : Value} (h : t ≠ d) : (a.put (some d) v).eval (.tmp t) = a.eval (.tmp t) := by
  simp [Act.put, Act.eval, Array.getElem?_setIfInBounds_ne (Ne.symm h)]
theorem ev_sameZ {a : Act} {d : Nat} {v : Value} (h : d < a.tmps.size) : (a.put (some d) v).eval (.tmp d) = v := by
  simp [Act.put, Act.eval, h]
/-- Has operation k come? -/
def lz (L : Array Bool) (k : Nat) : Bool := L.getD k false
theorem lz_set {L : Array Bool} {i k : Nat} (hi : i < L.size) : lz (L.setIfInBounds i true) k = (decide (k = i) || lz L k) := by
  unfold lz
  by_cases c : k = i
  · subst c; simp [hi]
  · simp [Array.getElem?_setIfInBounds_ne (Ne.symm c), c]
theorem lz_of {L : Array Bool} {i : Nat} (hi : i < L.size) (h : L.getD i true = false) : lz L i = false := by
  unfold lz
  simp only [Array.getD_eq_getD_getElem?] at h ⊢
  rw [Array.getElem?_eq_getElem hi] at h ⊢
  simpa using h
def cz (L : Array Bool) : Nat → Nat
  | 0 => 0
  | k + 1 => cz L k + (lz L k).toNat
theorem cz_le (L : Array Bool) : ∀ k, cz L k ≤ k
  | 0 => Nat.le_refl _
  | k + 1 => by have := cz_le L k; unfold cz; cases lz L k <;> simp <;> omega
theorem cz_all {L : Array Bool} : ∀ n, cz L n = n → ∀ k, k < n → lz L k = true
  | n + 1, h, k, hk => by
    have h1 := cz_le L n
    unfold cz at h
    cases c : lz L n
    · rw [c] at h; simp at h; omega
    · rw [c] at h
      rcases Nat.lt_or_ge k n with h2 | h2
      · exact cz_all n (by simpa using h) k h2
      · rw [show k = n by omega]; exact c
theorem cz_full {L : Array Bool} : ∀ n, (∀ k, k < n → lz L k = true) → cz L n = n
  | 0, _ => rfl
  | n + 1, h => by unfold cz; rw [cz_full n fun k hk => h k (by omega), h n (by omega)]; rfl
theorem cz_set {L : Array Bool} {i : Nat} (hi : i < L.size) (hl : lz L i = false) : ∀ n, cz (L.setIfInBounds i true) n = cz L n + (if i < n then 1 else 0)
  | 0 => rfl
  | n + 1 => by
    unfold cz
    rw [cz_set hi hl n, lz_set hi]
    rcases Nat.lt_trichotomy i n with h | h | h
    · rw [if_pos h, if_pos (by omega)]; simp [show n ≠ i by omega]; omega
    · subst h; rw [if_neg (by omega), if_pos (by omega), hl]; simp
    · rw [if_neg (by omega), if_neg (by omega)]; simp [show n ≠ i by omega]
theorem cz_none (m : Nat) : ∀ n, cz (Array.replicate m false) n = 0
  | 0 => rfl
  | n + 1 => by
    unfold cz
    rw [cz_none m n]
    have : lz (Array.replicate m false) n = false := by
      unfold lz
      rw [Array.getD_eq_getD_getElem?, Array.getElem?_replicate]
      split <;> rfl
    rw [this]; rfl

/-- What holds at every point. -/
structure EInv (a0 : Act) (w0 : World) (n : Nat) (d : Nat → Nat) (T : Nat → Value → World → Prop) (D : Nat → Prop) (a : Act) (w : World) : Prop where
  bl : Below w0.heap.size w0 w
  sz : a.tmps.size = a0.tmps.size
  df : a.defers = a0.defers
  ag : ∀ t, (∀ j, j < n → d j ≠ t) → a.eval (.tmp t) = a0.eval (.tmp t)
  vs : ∀ i, i < n → D i → T i (a.eval (.tmp (d i))) w

theorem wpOp_inZ {P : Program} {ops : Array Oper} {Q : Exit → Act → World → Prop} {i : Nat} {o : Oper} {K : Act → World → Prop} {a : Act} {w : World} (ho : ops[i]? = some o) (hg : o.guard = none) (h : o.wp P a w K Q) : wpOp P ops Q i K a w := by
  unfold wpOp
  rw [ho]
  have : Region.wanted o (yielded ops a.tmps) = true := by simp [Region.wanted, hg]
  simp only [this, if_true]
  exact .inl h
theorem wp_valueZ {P : Program} {Q : Exit → Act → World → Prop} {o : Oper} {K : Act → World → Prop} {a : Act} {w w' : World} {v : Value} (e : (execOp a.eval o).run P w = .ok (.value v) w') (h : K (a.put o.dst v) w') : o.wp P a w K Q := by
  unfold Oper.wp; rw [e]; exact h
theorem wp_enterZ {P : Program} {Q : Exit → Act → World → Prop} {o : Oper} {K : Act → World → Prop} {a : Act} {w : World} {f : Nat} {vs : Array Value} {R : Ending → World → Prop} (e : (execOp a.eval o).run P w = .ok (.enter f vs) w) (hc : Calls P f vs w R) (h : ∀ e w', R e w' → ∃ v, e = .returned v ∧ K (a.put o.dst v) w') : o.wp P a w K Q := by
  unfold Oper.wp
  rw [e, Oper.upon_enter]
  refine hc.mono fun e w' r => ?_
  obtain ⟨v, rfl, hk⟩ := h e w' r
  exact hk
theorem run_call1 {P : Program} {a : Act} {o : Oper} {f : Nat} {x : Operand} {ts : Array TypeId} {u : Value} {w : World} (ho : o.op = .call { callee := .value (.func f), args := #[x], argTypes := ts }) (hen : ∀ args w, (callFunc f args).run P w = .ok (.enter f args) w) (hx : a.eval x = u) : (execOp a.eval o).run P w = .ok (.enter f #[u]) w := by
  have ef : a.eval (.func f) = .func (.func f) #[] #[] := rfl
  simp [execOp, ho, ef, hx, resolve, invoke, Deferred.ofValue, hen]
theorem run_call2Z {P : Program} {a : Act} {o : Oper} {f : Nat} {x y : Operand} {ts : Array TypeId} {u v : Value} {w : World} (ho : o.op = .call { callee := .value (.func f), args := #[x, y], argTypes := ts }) (hen : ∀ args w, (callFunc f args).run P w = .ok (.enter f args) w) (hx : a.eval x = u) (hy : a.eval y = v) : (execOp a.eval o).run P w = .ok (.enter f #[u, v]) w := by
  have ef : a.eval (.func f) = .func (.func f) #[] #[] := rfl
  simp [execOp, ho, ef, hx, hy, resolve, invoke, Deferred.ofValue, hen]
theorem run_callv {P : Program} {a : Act} {o : Oper} {c x : Operand} {ts : Array TypeId} {f : Nat} {lb : Array Value} {u : Value} {w : World} (ho : o.op = .call { callee := .value c, args := #[x], argTypes := ts }) (hc : a.eval c = .func (.func f) #[] lb) (hen : ∀ args w, (callFunc f args).run P w = .ok (.enter f args) w) (hx : a.eval x = u) : (execOp a.eval o).run P w = .ok (.enter f (#[u] ++ lb)) w := by
  simp [execOp, ho, hc, hx, resolve, invoke, Deferred.ofValue, hen]

theorem wp_region_vals {P : Program} {ops : Array Oper} {Q : Exit → Act → World → Prop} {id : Nat} (hm : P.follows .mixedOrders = true) (a0 : Act) (w0 : World) (n : Nat) (d : Nat → Nat) (T : Nat → Value → World → Prop)
    (hn : ops.size = n) (hT : ∀ i v W W', T i v W → Below W.heap.size W W' → T i v W')
    (hd : ∀ i, i < n → ∀ j, j < n → d i = d j → i = j) (hdb : ∀ i, i < n → d i < a0.tmps.size)
    (hdst : ∀ i o, ops[i]? = some o → o.dst = some (d i) ∧ o.guard = none ∧ ∀ e ∈ o.after, Region.binds .any e = true → e.on < i)
    (hop : ∀ i o, ops[i]? = some o → ∀ a W, EInv a0 w0 n d T (fun _ => False) a W → (∀ e ∈ o.after, Region.binds .any e = true → T e.on (a.eval (.tmp (d e.on))) W) →
      ∀ K : Act → World → Prop, (∀ v W', Below W.heap.size W W' → T i v W' → K (a.put (some (d i)) v) W') → o.wp P a W K Q)
    (fin : ∀ a W, EInv a0 w0 n d T (fun _ => True) a W → Q .normal a W) : (Code.region id ops true).wp P Q a0 w0 := by
  refine wp_region_any hm (wpAny_invZ (fun f L a w => L.size = n ∧ f + cz L n = n ∧ EInv a0 w0 n d T (fun i => lz L i = true) a w) ?_ ?_ ops.size _ a0 _ ?_)
  · rintro L a w ⟨hs, hc, h⟩
    have hall := cz_all (L := L) n (by omega)
    refine ⟨List.eq_nil_iff_forall_not_mem.2 fun i hi => ?_, fin a w ⟨h.bl, h.sz, h.df, h.ag, fun i hi _ => h.vs i hi (hall i hi)⟩⟩
    rw [mem_ready] at hi
    obtain ⟨hl, o, ho, _⟩ := hi
    have hin : i < n := by rw [← hn]; exact (Array.getElem?_eq_some_iff.1 ho).1
    have := lz_of (by omega) hl
    rw [hall i hin] at this; cases this
  · rintro f L a w ⟨hs, hc, h⟩
    refine ⟨fun hr => ?_, fun i hi => ?_⟩
    · have hall : ∀ k, k < n → lz L k = true := by
        intro k
        induction k using Nat.strongRecOn with
        | ind k ih =>
          intro hk
          cases hl : lz L k
          · exfalso
            have ho : ops[k]? = some ops[k] := Array.getElem?_eq_getElem (by omega)
            have : k ∈ Region.ready .any ops L := mem_ready.2 ⟨by
              unfold lz at hl
              simp only [Array.getD_eq_getD_getElem?] at hl ⊢
              rw [Array.getElem?_eq_getElem (by omega)] at hl ⊢
              simpa using hl, _, ho, fun e he hb => by
                have h1 := (hdst k _ ho).2.2 e he hb
                have h2 := ih e.on h1 (by omega)
                unfold lz at h2
                exact h2⟩
            rw [hr] at this; cases this
          · rfl
      have := cz_full n hall
      omega
    · rw [mem_ready] at hi
      obtain ⟨hl, o, ho, haft⟩ := hi
      have hin : i < n := by rw [← hn]; exact (Array.getElem?_eq_some_iff.1 ho).1
      have hli := lz_of (L := L) (by omega) hl
      have hiL : i < L.size := by omega
      obtain ⟨hdi, hg, hlt⟩ := hdst i o ho
      refine wpOp_inZ ho hg (hop i o ho a w ⟨h.bl, h.sz, h.df, h.ag, fun _ _ c => c.elim⟩ (fun e he hb => h.vs e.on (by have := hlt e he hb; omega) (haft e he hb)) _ fun v W' hb hv => ?_)
      refine ⟨by simp [hs], by rw [cz_set hiL hli n, if_pos hin]; omega, h.bl.trans (hb.mono h.bl.size), by rw [← h.sz]; simp [Act.put], h.df, fun t ht => ?_, fun j hj hlj => ?_⟩
      · rw [ev_neZ (fun e => ht i hin e.symm)]; exact h.ag t ht
      · rw [lz_set hiL] at hlj
        by_cases c : j = i
        · subst c; rw [ev_sameZ (by rw [h.sz]; exact hdb j hj)]; exact hv
        · rw [ev_neZ (fun e => c (hd j hj i hin e))]
          exact hT j _ w W' (h.vs j hj (by simpa [c] using hlj)) hb
  · refine ⟨by simp [hn], by rw [cz_none]; omega, ⟨Below.drew (Below.refl _ _), rfl, rfl, fun _ _ => rfl, fun i _ hl => ?_⟩⟩
    unfold lz at hl
    rw [Array.getD_eq_getD_getElem?, Array.getElem?_replicate] at hl
    split at hl <;> cases hl

/-- The same where one last operation, which waits for all others, ends the statement. -/
theorem wp_region_last {P : Program} {ops : Array Oper} {Q : Exit → Act → World → Prop} {id : Nat} (hm : P.follows .mixedOrders = true) (a0 : Act) (w0 : World) (n : Nat) (d : Nat → Nat) (T : Nat → Value → World → Prop) (R : Act → World → Prop) (ol : Oper)
    (hn : ops.size = n + 1) (hol : ops[n]? = some ol) (hgl : ol.guard = none) (hal : ∀ k, k < n → ∃ e ∈ ol.after, e.on = k ∧ Region.binds .any e = true) (hal2 : ∀ e ∈ ol.after, Region.binds .any e = true → e.on < n)
    (hT : ∀ i v W W', T i v W → Below W.heap.size W W' → T i v W')
    (hd : ∀ i, i < n → ∀ j, j < n → d i = d j → i = j) (hdb : ∀ i, i < n → d i < a0.tmps.size)
    (hdst : ∀ i o, i < n → ops[i]? = some o → o.dst = some (d i) ∧ o.guard = none ∧ ∀ e ∈ o.after, Region.binds .any e = true → e.on < i)
    (hop : ∀ i o, i < n → ops[i]? = some o → ∀ a W, EInv a0 w0 n d T (fun _ => False) a W → (∀ e ∈ o.after, Region.binds .any e = true → T e.on (a.eval (.tmp (d e.on))) W) →
      ∀ K : Act → World → Prop, (∀ v W', Below W.heap.size W W' → T i v W' → K (a.put (some (d i)) v) W') → o.wp P a W K Q)
    (hlast : ∀ a W, EInv a0 w0 n d T (fun _ => True) a W → ∀ K : Act → World → Prop, (∀ a' W', R a' W' → K a' W') → ol.wp P a W K Q)
    (fin : ∀ a W, R a W → Q .normal a W) : (Code.region id ops true).wp P Q a0 w0 := by
  refine wp_region_any hm (wpAny_invZ (fun f L a w => L.size = n + 1 ∧ f + cz L (n + 1) = n + 1 ∧ ((lz L n = false ∧ EInv a0 w0 n d T (fun i => lz L i = true) a w) ∨ (cz L (n + 1) = n + 1 ∧ R a w))) ?_ ?_ ops.size _ a0 _ ?_)
  · rintro L a w ⟨hs, hc, h⟩
    have hall := cz_all (L := L) (n + 1) (by omega)
    rcases h with ⟨h1, -⟩ | ⟨-, hR⟩
    · rw [hall n (by omega)] at h1; cases h1
    refine ⟨List.eq_nil_iff_forall_not_mem.2 fun i hi => ?_, fin a w hR⟩
    rw [mem_ready] at hi
    obtain ⟨hl, o, ho, _⟩ := hi
    have hin : i < n + 1 := by rw [← hn]; exact (Array.getElem?_eq_some_iff.1 ho).1
    have := lz_of (by omega) hl
    rw [hall i hin] at this; cases this
  · rintro f L a w ⟨hs, hc, h⟩
    rcases h with ⟨h0, h⟩ | ⟨h1, hR⟩
    rotate_left
    · omega
    refine ⟨fun hr => ?_, fun i hi => ?_⟩
    · exfalso
      have hall : ∀ k, k < n + 1 → lz L k = true := by
        intro k
        induction k using Nat.strongRecOn with
        | ind k ih =>
          intro hk
          cases hl : lz L k
          · exfalso
            have ho : ops[k]? = some ops[k] := Array.getElem?_eq_getElem (by omega)
            have hlt : ∀ e ∈ (ops[k]).after, Region.binds .any e = true → e.on < k := by
              by_cases c : k = n
              · subst c
                have : ops[k] = ol := Option.some.inj (ho.symm.trans hol)
                rw [this]; exact hal2
              · exact (hdst k _ (by omega) ho).2.2
            have : k ∈ Region.ready .any ops L := mem_ready.2 ⟨by
              unfold lz at hl
              simp only [Array.getD_eq_getD_getElem?] at hl ⊢
              rw [Array.getElem?_eq_getElem (by omega)] at hl ⊢
              simpa using hl, _, ho, fun e he hb => by
                have h1 := hlt e he hb
                have h2 := ih e.on h1 (by omega)
                unfold lz at h2
                exact h2⟩
            rw [hr] at this; cases this
          · rfl
      rw [hall n (by omega)] at h0; cases h0
    · rw [mem_ready] at hi
      obtain ⟨hl, o, ho, haft⟩ := hi
      have hin : i < n + 1 := by rw [← hn]; exact (Array.getElem?_eq_some_iff.1 ho).1
      have hli := lz_of (L := L) (by omega) hl
      have hiL : i < L.size := by omega
      by_cases c : i = n
      · subst c
        obtain rfl : o = ol := Option.some.inj (ho.symm.trans hol)
        have hall : ∀ k, k < i → lz L k = true := fun k hk => by
          obtain ⟨e, he, rfl, hb⟩ := hal k hk
          exact haft e he hb
        have hci := cz_full i hall
        have hc2 : cz L (i + 1) = i := by
          show cz L i + (lz L i).toNat = i
          rw [hci, hli]; rfl
        refine wpOp_inZ ho hgl (hlast a w ⟨h.bl, h.sz, h.df, h.ag, fun j hj _ => h.vs j hj (hall j hj)⟩ _ fun a' W' hR => ?_)
        have hcs := cz_set hiL hli (i + 1)
        rw [if_pos (by omega)] at hcs
        exact ⟨by simp [hs], by omega, .inr ⟨by omega, hR⟩⟩
      · have hin' : i < n := by omega
        obtain ⟨hdi, hg, hlt⟩ := hdst i o hin' ho
        refine wpOp_inZ ho hg (hop i o hin' ho a w ⟨h.bl, h.sz, h.df, h.ag, fun _ _ c => c.elim⟩ (fun e he hb => h.vs e.on (by have := hlt e he hb; omega) (haft e he hb)) _ fun v W' hb hv => ?_)
        refine ⟨by simp [hs], by rw [cz_set hiL hli (n + 1), if_pos hin]; omega, .inl ⟨by rw [lz_set hiL, h0]; simp; omega, h.bl.trans (hb.mono h.bl.size), by rw [← h.sz]; simp [Act.put], h.df, fun t ht => ?_, fun j hj hlj => ?_⟩⟩
        · rw [ev_neZ (fun e => ht i hin' e.symm)]; exact h.ag t ht
        · rw [lz_set hiL] at hlj
          by_cases c : j = i
          · subst c; rw [ev_sameZ (by rw [h.sz]; exact hdb j hj)]; exact hv
          · rw [ev_neZ (fun e => c (hd j hj i hin' e))]
            exact hT j _ w W' (h.vs j hj (by simpa [c] using hlj)) hb
  · refine ⟨by simp [hn], by rw [cz_none]; omega, .inl ⟨?_, Below.drew (Below.refl _ _), rfl, rfl, fun _ _ => rfl, fun i _ hl => ?_⟩⟩
    · unfold lz
      rw [Array.getD_eq_getD_getElem?, Array.getElem?_replicate]
      split <;> rfl
    · unfold lz at hl
      rw [Array.getD_eq_getD_getElem?, Array.getElem?_replicate] at hl
      split at hl <;> cases hl

end Go.Proofs.Ytlcablkhomnieaa

/-
  A statement whose order of evaluation is open and some of whose operations are guarded (&&, ||): what each yields holds at the end.
-/
namespace Go.Proofs.Ytlcablkhomnieaa
open Go.RowKit

theorem wpOp_on {P : Program} {ops : Array Oper} {Q : Exit → Act → World → Prop} {i : Nat} {o : Oper} {K : Act → World → Prop} {a : Act} {w : World} (ho : ops[i]? = some o) (hw : Region.wanted o (yielded ops a.tmps) = true) (h : o.wp P a w K Q) : wpOp P ops Q i K a w := by
  unfold wpOp
  rw [ho]
  simp only [hw, if_true]
  exact .inl h
theorem wpOp_off {P : Program} {ops : Array Oper} {Q : Exit → Act → World → Prop} {i : Nat} {o : Oper} {K : Act → World → Prop} {a : Act} {w : World} (ho : ops[i]? = some o) (hw : Region.wanted o (yielded ops a.tmps) = false) (h : K (a.put o.dst undef) w) : wpOp P ops Q i K a w := by
  unfold wpOp
  rw [ho]
  simp only [hw]
  exact h
theorem wanted_none {o : Oper} {f : Nat → Option Bool} (h : o.guard = none) : Region.wanted o f = true := by simp [Region.wanted, h]
theorem wanted_at {ops : Array Oper} {o : Oper} {a : Act} {g t : Nat} {b x : Bool} (hg : o.guard = some (g, b)) (ht : (ops[g]?).bind (·.dst) = some t) (hs : t < a.tmps.size) (hv : a.eval (.tmp t) = .bool x) : Region.wanted o (yielded ops a.tmps) = (x == b) := by
  have e : a.tmps[t]? = some (.bool x) := by
    unfold Act.eval at hv
    simp only [Array.getD_eq_getD_getElem?, Array.getElem?_eq_getElem hs, Option.getD_some] at hv
    rw [Array.getElem?_eq_getElem hs, hv]
  simp [Region.wanted, hg, yielded, ht, e]
theorem wanted_off {ops : Array Oper} {o : Oper} {a : Act} {g t : Nat} {b : Bool} (hg : o.guard = some (g, b)) (ht : (ops[g]?).bind (·.dst) = some t) (hs : t < a.tmps.size) (hv : a.eval (.tmp t) = undef) : Region.wanted o (yielded ops a.tmps) = false := by
  have e : a.tmps[t]? = some undef := by
    unfold Act.eval at hv
    simp only [Array.getD_eq_getD_getElem?, Array.getElem?_eq_getElem hs, Option.getD_some] at hv
    rw [Array.getElem?_eq_getElem hs, hv]
  simp [Region.wanted, hg, yielded, ht, e, undef]

theorem wp_region_guard {P : Program} {ops : Array Oper} {Q : Exit → Act → World → Prop} {id : Nat} (hm : P.follows .mixedOrders = true) (a0 : Act) (w0 : World) (n : Nat) (d : Nat → Nat) (T : Nat → Value → World → Prop)
    (hn : ops.size = n) (hT : ∀ i v W W', T i v W → Below W.heap.size W W' → T i v W')
    (hd : ∀ i, i < n → ∀ j, j < n → d i = d j → i = j) (hdb : ∀ i, i < n → d i < a0.tmps.size)
    (hdst : ∀ i o, ops[i]? = some o → o.dst = some (d i) ∧ ∀ e ∈ o.after, Region.binds .any e = true → e.on < i)
    (hop : ∀ i o, ops[i]? = some o → ∀ a W, EInv a0 w0 n d T (fun _ => False) a W → (∀ e ∈ o.after, Region.binds .any e = true → T e.on (a.eval (.tmp (d e.on))) W) →
      ∀ K : Act → World → Prop, (∀ v W', Below W.heap.size W W' → T i v W' → K (a.put (some (d i)) v) W') → wpOp P ops Q i K a W)
    (fin : ∀ a W, EInv a0 w0 n d T (fun _ => True) a W → Q .normal a W) : (Code.region id ops true).wp P Q a0 w0 := by
  refine wp_region_any hm (wpAny_invZ (fun f L a w => L.size = n ∧ f + cz L n = n ∧ EInv a0 w0 n d T (fun i => lz L i = true) a w) ?_ ?_ ops.size _ a0 _ ?_)
  · rintro L a w ⟨hs, hc, h⟩
    have hall := cz_all (L := L) n (by omega)
    refine ⟨List.eq_nil_iff_forall_not_mem.2 fun i hi => ?_, fin a w ⟨h.bl, h.sz, h.df, h.ag, fun i hi _ => h.vs i hi (hall i hi)⟩⟩
    rw [mem_ready] at hi
    obtain ⟨hl, o, ho, _⟩ := hi
    have hin : i < n := by rw [← hn]; exact (Array.getElem?_eq_some_iff.1 ho).1
    have := lz_of (by omega) hl
    rw [hall i hin] at this; cases this
  · rintro f L a w ⟨hs, hc, h⟩
    refine ⟨fun hr => ?_, fun i hi => ?_⟩
    · have hall : ∀ k, k < n → lz L k = true := by
        intro k
        induction k using Nat.strongRecOn with
        | ind k ih =>
          intro hk
          cases hl : lz L k
          · exfalso
            have ho : ops[k]? = some ops[k] := Array.getElem?_eq_getElem (by omega)
            have : k ∈ Region.ready .any ops L := mem_ready.2 ⟨by
              unfold lz at hl
              simp only [Array.getD_eq_getD_getElem?] at hl ⊢
              rw [Array.getElem?_eq_getElem (by omega)] at hl ⊢
              simpa using hl, _, ho, fun e he hb => by
                have h1 := (hdst k _ ho).2 e he hb
                have h2 := ih e.on h1 (by omega)
                unfold lz at h2
                exact h2⟩
            rw [hr] at this; cases this
          · rfl
      have := cz_full n hall
      omega
    · rw [mem_ready] at hi
      obtain ⟨hl, o, ho, haft⟩ := hi
      have hin : i < n := by rw [← hn]; exact (Array.getElem?_eq_some_iff.1 ho).1
      have hli := lz_of (L := L) (by omega) hl
      have hiL : i < L.size := by omega
      obtain ⟨hdi, hlt⟩ := hdst i o ho
      refine hop i o ho a w ⟨h.bl, h.sz, h.df, h.ag, fun _ _ c => c.elim⟩ (fun e he hb => h.vs e.on (by have := hlt e he hb; omega) (haft e he hb)) _ fun v W' hb hv => ?_
      refine ⟨by simp [hs], by rw [cz_set hiL hli n, if_pos hin]; omega, h.bl.trans (hb.mono h.bl.size), by rw [← h.sz]; simp [Act.put], h.df, fun t ht => ?_, fun j hj hlj => ?_⟩
      · rw [ev_neZ (fun e => ht i hin e.symm)]; exact h.ag t ht
      · rw [lz_set hiL] at hlj
        by_cases c : j = i
        · subst c; rw [ev_sameZ (by rw [h.sz]; exact hdb j hj)]; exact hv
        · rw [ev_neZ (fun e => c (hd j hj i hin e))]
          exact hT j _ w W' (h.vs j hj (by simpa [c] using hlj)) hb
  · refine ⟨by simp [hn], by rw [cz_none]; omega, ⟨Below.drew (Below.refl _ _), rfl, rfl, fun _ _ => rfl, fun i _ hl => ?_⟩⟩
    unfold lz at hl
    rw [Array.getD_eq_getD_getElem?, Array.getElem?_replicate] at hl
    split at hl <;> cases hl
/-- The operations write these slots; each waits for earlier ones alone. -/
def okG (ops : Array Oper) (ds : List Nat) : Bool := (List.range ops.size).all fun i => match ops[i]? with
  | some o => decide (o.dst = some (ds.getD i 0)) && o.after.all fun e => !(Region.binds .any e) || decide (e.on < i)
  | none => true
theorem hdG_of {ops : Array Oper} {ds : List Nat} (h : okG ops ds = true) : ∀ i o, ops[i]? = some o → o.dst = some (ds.getD i 0) ∧ ∀ e ∈ o.after, Region.binds .any e = true → e.on < i := fun i o ho => by
  have hi : i < ops.size := (Array.getElem?_eq_some_iff.1 ho).1
  have h1 := List.all_eq_true.1 h i (List.mem_range.2 hi)
  rw [ho] at h1
  simp only [Bool.and_eq_true, decide_eq_true_eq] at h1
  refine ⟨h1.1, fun e he hb => ?_⟩
  have h2 := Array.all_eq_true_iff_forall_mem.1 h1.2 e he
  rw [hb] at h2
  simpa using h2

end Go.Proofs.Ytlcablkhomnieaa

/-
  A block of cells.
-/
namespace Go.Proofs.Ytlcablkhomnieaa
open Go.RowKit

/-- Block k holds just these cells of that type. -/
def Bk (w : World) (k : Nat) (cs : List Value) (t : TypeId) : Prop := w.heap[k]? = some (.cells cs.toArray t (0, 0))
theorem Bk.lt {w : World} {k : Nat} {cs : List Value} {t : TypeId} (h : Bk w k cs t) : k < w.heap.size := (Array.getElem?_eq_some_iff.1 h).1
theorem Bk.cell {w : World} {k : Nat} {cs : List Value} {t : TypeId} (h : Bk w k cs t) (i : Nat) : w.cell? ⟨k, i, none⟩ = cs[i]? := by
  simp [World.cell?, show w.heap[k]? = _ from h]
theorem Bk.below {w W : World} {k : Nat} {cs : List Value} {t : TypeId} (h : Bk w k cs t) (q : Below w.heap.size w W) : Bk W k cs t := (q.block k h.lt).trans h
theorem Bk.new (w : World) (cs : List Value) (t : TypeId) : Bk (w.alloc (.cells cs.toArray t)) w.heap.size cs t := by
  show (w.heap.push (.cells cs.toArray t (0, 0)))[w.heap.size]? = some _
  simp

end Go.Proofs.Ytlcablkhomnieaa
