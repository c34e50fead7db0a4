/-
  A statement whose order of evaluation is open, one of whose operations writes: what holds of the world on the way is told by the prover.
-/
import Derived.Test.YtepmdnggiajkbaaK27
namespace Go.Proofs.Ytepmdnggiajkbaa
open Go.RowKit

/-- What holds at every point. -/
structure SInvO (a0 : Act) (n : Nat) (d : Nat → Nat) (T : Nat → Value → World → Prop) (Rd : Bool → World → Prop) (b : Bool) (D : Nat → Prop) (a : Act) (w : World) : Prop where
  rd : Rd b w
  sz : a.tmps.size = a0.tmps.size
  df : a.defers = a0.defers
  ag : ∀ t, (∀ j, j < n → d j ≠ t) → a.eval (.tmp t) = a0.eval (.tmp t)
  vs : ∀ i, i < n → D i → T i (a.eval (.tmp (d i))) w
/-- A statement whose order is open and whose last operation waits for all others: what must hold of the world on the way is the prover's own. -/
theorem wp_region_st {P : Program} {ops : Array Oper} {Q : Exit → Act → World → Prop} {id : Nat} (hm : P.follows .mixedOrders = true) (a0 : Act) (w0 : World) (n : Nat) (d : Nat → Nat) (T : Nat → Value → World → Prop) (wr : Nat) (Rd : Bool → World → Prop) (R : Act → World → Prop) (ol : Oper)
    (hn : ops.size = n + 1) (hol : ops[n]? = some ol) (hgl : ol.guard = none) (hal : ∀ k, k < n → (∃ e ∈ ol.after, e.on = k ∧ Region.binds .any e = true) ∨ ∃ e ∈ ol.after, Region.binds .any e = true ∧ ∃ o', ops[e.on]? = some o' ∧ ∃ e' ∈ o'.after, e'.on = k ∧ Region.binds .any e' = true) (hal2 : ∀ e ∈ ol.after, Region.binds .any e = true → e.on < n)
    (h0 : Rd false w0.drew)
    (hd : ∀ i, i < n → ∀ j, j < n → d i = d j → i = j) (hdb : ∀ i, i < n → d i < a0.tmps.size)
    (hdst : ∀ i o, i < n → ops[i]? = some o → o.dst = some (d i) ∧ o.guard = none ∧ ∀ e ∈ o.after, Region.binds .any e = true → e.on < i)
    (hop : ∀ i o, i < n → ops[i]? = some o → ∀ a W b, (i = wr → b = false) → SInvO a0 n d T Rd b (fun _ => False) a W → (∀ e ∈ o.after, Region.binds .any e = true → T e.on (a.eval (.tmp (d e.on))) W) →
      ∀ K : Act → World → Prop, (∀ v W', Rd (decide (i = wr) || b) W' → T i v W' → (∀ j u, j ≠ i → T j u W → T j u W') → K (a.put (some (d i)) v) W') → o.wp P a W K Q)
    (hlast : ∀ a W b, SInvO a0 n d T Rd b (fun _ => True) a W → ∀ K : Act → World → Prop, (∀ a' W', R a' W' → K a' W') → ol.wp P a W K Q)
    (fin : ∀ a W, R a W → Q .normal a W) : (Code.region id ops true).wp P Q a0 w0 := by
  refine wp_region_any hm (wpAny_invZ (fun f L a w => L.size = n + 1 ∧ f + cz L (n + 1) = n + 1 ∧ (∀ j o, j < n → lz L j = true → ops[j]? = some o → ∀ e ∈ o.after, Region.binds .any e = true → lz L e.on = true) ∧ ((lz L n = false ∧ SInvO a0 n d T Rd (lz L wr) (fun i => lz L i = true) a w) ∨ (cz L (n + 1) = n + 1 ∧ R a w))) ?_ ?_ ops.size _ a0 _ ?_)
  · rintro L a w ⟨hs, hc, hcl, h⟩
    have hall := cz_all (L := L) (n + 1) (by omega)
    rcases h with ⟨h1, -⟩ | ⟨-, hR⟩
    · rw [hall n (by omega)] at h1; cases h1
    refine ⟨List.eq_nil_iff_forall_not_mem.2 fun i hi => ?_, fin a w hR⟩
    rw [mem_ready] at hi
    obtain ⟨hl, o, ho, _⟩ := hi
    have hin : i < n + 1 := by rw [← hn]; exact (Array.getElem?_eq_some_iff.1 ho).1
    have := lz_of (by omega) hl
    rw [hall i hin] at this; cases this
  · rintro f L a w ⟨hs, hc, hcl, h⟩
    rcases h with ⟨h0, h⟩ | ⟨h1, hR⟩
    rotate_left
    · omega
    refine ⟨fun hr => ?_, fun i hi => ?_⟩
    · exfalso
      have hall : ∀ k, k < n + 1 → lz L k = true := by
        intro k
        induction k using Nat.strongRecOn with
        | ind k ih =>
          intro hk
          cases hl : lz L k
          · exfalso
            have ho : ops[k]? = some ops[k] := Array.getElem?_eq_getElem (by omega)
            have hlt : ∀ e ∈ (ops[k]).after, Region.binds .any e = true → e.on < k := by
              by_cases c : k = n
              · subst c
                have : ops[k] = ol := Option.some.inj (ho.symm.trans hol)
                rw [this]; exact hal2
              · exact (hdst k _ (by omega) ho).2.2
            have : k ∈ Region.ready .any ops L := mem_ready.2 ⟨by
              unfold lz at hl
              simp only [Array.getD_eq_getD_getElem?] at hl ⊢
              rw [Array.getElem?_eq_getElem (by omega)] at hl ⊢
              simpa using hl, _, ho, fun e he hb => by
                have h1 := hlt e he hb
                have h2 := ih e.on h1 (by omega)
                unfold lz at h2
                exact h2⟩
            rw [hr] at this; cases this
          · rfl
      rw [hall n (by omega)] at h0; cases h0
    · rw [mem_ready] at hi
      obtain ⟨hl, o, ho, haft⟩ := hi
      have hin : i < n + 1 := by rw [← hn]; exact (Array.getElem?_eq_some_iff.1 ho).1
      have hli := lz_of (L := L) (by omega) hl
      have hiL : i < L.size := by omega
      by_cases c : i = n
      · subst c
        obtain rfl : o = ol := Option.some.inj (ho.symm.trans hol)
        have hall : ∀ k, k < i → lz L k = true := fun k hk => by
          rcases hal k hk with ⟨e, he, rfl, hb⟩ | ⟨e, he, hb, o', ho', e', he', rfl, hb'⟩
          · exact haft e he hb
          · exact hcl e.on o' (hal2 e he hb) (haft e he hb) ho' e' he' hb'
        have hci := cz_full i hall
        have hc2 : cz L (i + 1) = i := by
          show cz L i + (lz L i).toNat = i
          rw [hci, hli]; rfl
        refine wpOp_inZ ho hgl (hlast a w _ ⟨h.rd, h.sz, h.df, h.ag, fun j hj _ => h.vs j hj (hall j hj)⟩ _ fun a' W' hR => ?_)
        have hcs := cz_set hiL hli (i + 1)
        rw [if_pos (by omega)] at hcs
        refine ⟨by simp [hs], by omega, fun j o2 hj hlj ho2 e he hb => ?_, .inr ⟨by omega, hR⟩⟩
        rw [lz_set hiL] at hlj ⊢
        have hji : j ≠ i := by omega
        rw [hcl j o2 hj (by simpa [hji] using hlj) ho2 e he hb]; simp
      · have hin' : i < n := by omega
        obtain ⟨hdi, hg, hlt⟩ := hdst i o hin' ho
        refine wpOp_inZ ho hg (hop i o hin' ho a w (lz L wr) (fun e => by rw [← e]; exact hli) ⟨h.rd, h.sz, h.df, h.ag, fun _ _ c => c.elim⟩ (fun e he hb => h.vs e.on (by have := hlt e he hb; omega) (haft e he hb)) _ fun v W' hb hv hst => ?_)
        refine ⟨by simp [hs], by rw [cz_set hiL hli (n + 1), if_pos hin]; omega, (fun j o2 hj hlj ho2 e he hbb => by
          rw [lz_set hiL] at hlj ⊢
          by_cases hji : j = i
          · subst hji
            obtain rfl : o2 = o := Option.some.inj (ho2.symm.trans ho)
            have := haft e he hbb
            rw [show lz L e.on = true from this]; simp
          · rw [hcl j o2 hj (by simpa [hji] using hlj) ho2 e he hbb]; simp), .inl ⟨by rw [lz_set hiL, h0]; simp; omega, by rw [lz_set hiL, show decide (wr = i) = decide (i = wr) by by_cases q : wr = i <;> simp [q, eq_comm]]; exact hb, by rw [← h.sz]; simp [Act.put], h.df, fun t ht => ?_, fun j hj hlj => ?_⟩⟩
        · rw [ev_neZ (fun e => ht i hin' e.symm)]; exact h.ag t ht
        · rw [lz_set hiL] at hlj
          by_cases c : j = i
          · subst c; rw [ev_sameZ (by rw [h.sz]; exact hdb j hj)]; exact hv
          · rw [ev_neZ (fun e => c (hd j hj i hin' e))]
            exact hst j _ c (h.vs j hj (by simpa [c] using hlj))
  · refine ⟨by simp [hn], by rw [cz_none]; omega, (fun j o hj hl => by
      unfold lz at hl
      rw [Array.getD_eq_getD_getElem?, Array.getElem?_replicate] at hl
      split at hl <;> cases hl), .inl ⟨?_, by rw [show lz (Array.replicate ops.size false) wr = false by unfold lz; rw [Array.getD_eq_getD_getElem?, Array.getElem?_replicate]; split <;> rfl]; exact h0, rfl, rfl, fun _ _ => rfl, fun i _ hl => ?_⟩⟩
    · unfold lz
      rw [Array.getD_eq_getD_getElem?, Array.getElem?_replicate]
      split <;> rfl
    · unfold lz at hl
      rw [Array.getD_eq_getD_getElem?, Array.getElem?_replicate] at hl
      split at hl <;> cases hl


/-- The operations' shape: each but the last writes its own slot, behind earlier ones alone; the last waits for all. -/
def okS2 (ops : Array Oper) (ds : List Nat) : Bool :=
  (List.range ds.length).all (fun i => match ops[i]? with
    | some o => decide (o.dst = some (ds.getD i 0)) && o.guard.isNone && o.after.all fun e => !Region.binds .any e || decide (e.on < i)
    | none => false) &&
  match ops[ds.length]? with
    | some o => (List.range ds.length).all (fun k => (o.after.any fun e => decide (e.on = k) && Region.binds .any e) || o.after.any fun e => Region.binds .any e && match ops[e.on]? with
        | some o' => o'.after.any fun e' => decide (e'.on = k) && Region.binds .any e'
        | none => false) && o.after.all fun e => !Region.binds .any e || decide (e.on < ds.length)
    | none => false
theorem hdS_of {ops : Array Oper} {ds : List Nat} (h : okS2 ops ds = true) : ∀ i o, i < ds.length → ops[i]? = some o → o.dst = some (ds.getD i 0) ∧ o.guard = none ∧ ∀ e ∈ o.after, Region.binds .any e = true → e.on < i := by
  intro i o hi ho
  unfold okS2 at h
  rw [Bool.and_eq_true, List.all_eq_true] at h
  have := h.1 i (List.mem_range.2 hi)
  rw [ho] at this
  simp only [Bool.and_eq_true, decide_eq_true_eq, Option.isNone_iff_eq_none] at this
  refine ⟨this.1.1, this.1.2, fun e he hb => ?_⟩
  have h2 := Array.all_eq_true'.1 this.2 e he
  rw [hb] at h2
  simpa using h2
theorem hall_of {ops : Array Oper} {ds : List Nat} (h : okS2 ops ds = true) {o : Oper} {n : Nat} (hn : n = ds.length := by rfl) (ho : ops[n]? = some o := by rfl) : ∀ k, k < n → (∃ e ∈ o.after, e.on = k ∧ Region.binds .any e = true) ∨ ∃ e ∈ o.after, Region.binds .any e = true ∧ ∃ o', ops[e.on]? = some o' ∧ ∃ e' ∈ o'.after, e'.on = k ∧ Region.binds .any e' = true := by
  subst hn
  intro k hk
  unfold okS2 at h
  rw [Bool.and_eq_true, ho] at h
  have h2 := h.2
  simp only [Bool.and_eq_true] at h2
  have := List.all_eq_true.1 h2.1 k (List.mem_range.2 hk)
  rw [Bool.or_eq_true] at this
  rcases this with this | this
  · obtain ⟨e, he, hq⟩ := Array.any_eq_true'.1 this
    simp only [Bool.and_eq_true, decide_eq_true_eq] at hq
    exact .inl ⟨e, he, hq.1, hq.2⟩
  · obtain ⟨e, he, hq⟩ := Array.any_eq_true'.1 this
    rw [Bool.and_eq_true] at hq
    cases q : ops[e.on]? with
    | none => rw [q] at hq; cases hq.2
    | some o' =>
      rw [q] at hq
      obtain ⟨e', he', hq'⟩ := Array.any_eq_true'.1 hq.2
      simp only [Bool.and_eq_true, decide_eq_true_eq] at hq'
      exact .inr ⟨e, he, hq.1, o', q, e', he', hq'.1, hq'.2⟩
theorem hal2_of {ops : Array Oper} {ds : List Nat} (h : okS2 ops ds = true) {o : Oper} {n : Nat} (hn : n = ds.length := by rfl) (ho : ops[n]? = some o := by rfl) : ∀ e ∈ o.after, Region.binds .any e = true → e.on < n := by
  subst hn
  intro e he hb
  unfold okS2 at h
  rw [Bool.and_eq_true, ho] at h
  have h2 := h.2
  simp only [Bool.and_eq_true] at h2
  have := Array.all_eq_true'.1 h2.2 e he
  rw [hb] at this
  simpa using this
theorem wp_skipZ {P : Program} {Q : Exit → Act → World → Prop} {o : Oper} {K : Act → World → Prop} {a : Act} {w w' : World} (e : (execOp a.eval o).run P w = .ok .skip w') (h : K (a.put o.dst undef) w') : o.wp P a w K Q := by
  unfold Oper.wp; rw [e]; exact h

end Go.Proofs.Ytepmdnggiajkbaa
