/-
  A statement whose order of evaluation is open: what holds of those operations that have come, whatever they do to memory.
-/
import Derived.Test.YtaldjpjlggnhhaaK27
namespace Go.Proofs.Ytaldjpjlggnhhaa
open Go.RowKit

/-- With an operation, those that it waits for have come. -/
def ClsD (ops : Array Oper) (D : Nat → Bool) : Prop := ∀ i o, ops[i]? = some o → D i = true → ∀ e ∈ o.after, Region.binds .any e = true → D e.on = true
theorem wp_region_inv {P : Program} {ops : Array Oper} {Q : Exit → Act → World → Prop} {id : Nat} (hm : P.follows .mixedOrders = true) (a0 : Act) (w0 : World) (n : Nat) (hn : ops.size = n) (J : (Nat → Bool) → Act → World → Prop)
    (hdep : ∀ i o, ops[i]? = some o → o.guard = none ∧ ∀ e ∈ o.after, Region.binds .any e = true → e.on < i)
    (h0 : J (fun _ => false) a0 w0.drew)
    (hst : ∀ i o, ops[i]? = some o → ∀ D a W, ClsD ops D → D i = false → (∀ e ∈ o.after, Region.binds .any e = true → D e.on = true) → J D a W → o.wp P a W (fun a' W' => J (fun k => decide (k = i) || D k) a' W') Q)
    (fin : ∀ D a W, (∀ k, k < n → D k = true) → J D a W → Q .normal a W) : (Code.region id ops true).wp P Q a0 w0 := by
  refine wp_region_any hm (wpAny_invZ (fun f L a w => L.size = n ∧ f + cz L n = n ∧ ClsD ops (lz L) ∧ J (lz L) a w) ?_ ?_ ops.size _ a0 _ ?_)
  · rintro L a w ⟨hs, hc, -, h⟩
    have hall := cz_all (L := L) n (by omega)
    refine ⟨List.eq_nil_iff_forall_not_mem.2 fun i hi => ?_, fin _ a w hall h⟩
    rw [mem_ready] at hi
    obtain ⟨hl, o, ho, _⟩ := hi
    have hin : i < n := by rw [← hn]; exact (Array.getElem?_eq_some_iff.1 ho).1
    have := lz_of (by omega) hl
    rw [hall i hin] at this; cases this
  · rintro f L a w ⟨hs, hc, hcl, h⟩
    refine ⟨fun hr => ?_, fun i hi => ?_⟩
    · exfalso
      have hall : ∀ k, k < n → lz L k = true := by
        intro k
        induction k using Nat.strongRecOn with
        | ind k ih =>
          intro hk
          cases hl : lz L k
          · exfalso
            have ho : ops[k]? = some ops[k] := Array.getElem?_eq_getElem (by omega)
            have : k ∈ Region.ready .any ops L := mem_ready.2 ⟨by
              unfold lz at hl
              simp only [Array.getD_eq_getD_getElem?] at hl ⊢
              rw [Array.getElem?_eq_getElem (by omega)] at hl ⊢
              simpa using hl, _, ho, fun e he hb => by
                have h1 := (hdep k _ ho).2 e he hb
                have h2 := ih e.on h1 (by omega)
                unfold lz at h2
                exact h2⟩
            rw [hr] at this; cases this
          · rfl
      have := cz_full n hall
      omega
    · rw [mem_ready] at hi
      obtain ⟨hl, o, ho, haft⟩ := hi
      have hin : i < n := by rw [← hn]; exact (Array.getElem?_eq_some_iff.1 ho).1
      have hli := lz_of (L := L) (by omega) hl
      have hiL : i < L.size := by omega
      obtain ⟨hg, hlt⟩ := hdep i o ho
      have hset : lz (L.setIfInBounds i true) = fun k => decide (k = i) || lz L k := funext fun k => lz_set hiL
      refine wpOp_mono (fun a' w' hJ => ?_) (wpOp_inZ ho hg (hst i o ho (lz L) a w hcl hli (fun e he hb => haft e he hb) h))
      refine ⟨by simp [hs], by rw [cz_set hiL hli n, if_pos hin]; omega, fun j oj hoj hj e he hb => ?_, by rw [hset]; exact hJ⟩
      rw [hset] at hj ⊢
      by_cases c : j = i
      · subst c
        obtain rfl : oj = o := Option.some.inj (hoj.symm.trans ho)
        show (decide (e.on = j) || lz L e.on) = true
        rw [show lz L e.on = true from haft e he hb]; simp
      · have hj' : lz L j = true := by simpa [c] using hj
        show (decide (e.on = i) || lz L e.on) = true
        rw [hcl j oj hoj hj' e he hb]; simp
  · have hz : lz (Array.replicate ops.size false) = fun _ => false := funext fun k => by
      unfold lz
      rw [Array.getD_eq_getD_getElem?, Array.getElem?_replicate]
      split <;> rfl
    refine ⟨by simp [hn], by rw [cz_none]; omega, fun i o _ hi => ?_, by rw [hz]; exact h0⟩
    rw [hz] at hi; cases hi

end Go.Proofs.Ytaldjpjlggnhhaa
