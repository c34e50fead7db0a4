/-
  Apart says yes of lists that lie each in memory of its own, and what lies in other blocks stays as it was.
-/
import Derived.Test.YtnakadlhafggkaaK1
namespace Go.Proofs.Ytnakadlhafggkaa
open Go.RowKit

/-- What holds all the way: the outer slice, the lists, what is old. -/
structure ApInT (T : Nat → Prop) (w : World) (B N : Nat) (v : Value) (vs : Nat → Value) (ns : Nat → Nat) (M : Nat → Nat → Int) (wr : World) : Prop where
  out : OwnV wr B v N vs
  fam : Fam wr B N vs ns M
  apart : ∀ b, v.ownBlock = some b → ∀ i, i < N → (vs i).ownBlock ≠ some b
  base : B ≤ w.heap.size
  below : Below B w wr
  tn : ∀ k, T k → v.ownBlock ≠ some k ∧ ∀ i, i < N → (vs i).ownBlock ≠ some k
  kp : ∀ k, T k → k < w.heap.size → wr.heap[k]? = w.heap[k]?
  sz : w.heap.size ≤ wr.heap.size
theorem ApInT.keep {T : Nat → Prop} {w wr w1 : World} {B N : Nat} {v : Value} {vs : Nat → Value} {ns : Nat → Nat} {M : Nat → Nat → Int} (h : ApInT T w B N v vs ns M wr) (k : ∀ b, b < wr.heap.size → (v.ownBlock = some b ∨ ∃ i, i < N ∧ (vs i).ownBlock = some b) → w1.heap[b]? = wr.heap[b]?) (hb : Below B wr w1) (ht : ∀ k, T k → k < wr.heap.size → w1.heap[k]? = wr.heap[k]?) : ApInT T w B N v vs ns M w1 :=
  ⟨h.out.keep fun b e => k b (h.out.lt e).2 (.inl e), h.fam.keep fun i hi b e => k b ((h.fam.own i hi).lt e).2 (.inr ⟨i, hi, e⟩), h.apart, h.base, h.below.trans hb, h.tn, fun k tk hk => (ht k tk (Nat.lt_of_lt_of_le hk h.sz)).trans (h.kp k tk hk), Nat.le_trans h.sz hb.size⟩
theorem ApInT.congr {T : Nat → Prop} {w wr : World} {B N : Nat} {v : Value} {vs : Nat → Value} {ns : Nat → Nat} {M M' : Nat → Nat → Int} (h : ApInT T w B N v vs ns M wr) (e : ∀ i, i < N → ∀ j, j < ns i → M i j = M' i j) : ApInT T w B N v vs ns M' wr :=
  ⟨h.out, h.fam.congr e, h.apart, h.base, h.below, h.tn, h.kp, h.sz⟩
theorem ApInT.store {T : Nat → Prop} {w wr : World} {B N I g c : Nat} {v : Value} {vs : Nat → Value} {ns : Nat → Nat} {M : Nat → Nat → Int} (h : ApInT T w B N v vs ns M wr) (hI : I < N) (e : vs I = .slice (some ⟨g, 0, none⟩) (ns I) c) (j : Nat) (x : Int) :
    ApInT T w B N v vs ns (setFF I j x M) (wr.setCell ⟨g, j, none⟩ (.int .i64 x)) := by
  have hg := (h.fam.own I hI).lt (b := g) (by rw [e]; rfl)
  refine ⟨h.out.keep fun b hb => Below.heap_setCell wr ⟨g, j, none⟩ _ b fun e2 => ?_, h.fam.store hI e j x, h.apart, h.base, h.below.setCell hg.1 _, h.tn, fun k tk hk => (Below.heap_setCell wr ⟨g, j, none⟩ _ k (fun e2 => (h.tn k tk).2 I hI (by rw [e, e2]; rfl))).trans (h.kp k tk hk), by have := h.sz; simpa [World.setCell] using this⟩
  subst e2
  exact h.apart _ hb I hI (by rw [e]; rfl)

/-- One more append. -/
theorem going_stepT {T : Nat → Prop} {w wr w1 : World} {B H N I k : Nat} {v : Value} {vs : Nat → Value} {ns : Nat → Nat} {x x' : Value} {o : Obj} {F G : Nat → Int} (h : ApInT T w B N v vs ns mkAll wr) (hI : I < N) (hH : H ≤ wr.heap.size) (hB : B ≤ wr.heap.size)
    (hHw : w.heap.size ≤ H) (hTw : ∀ k, T k → k < w.heap.size) (hlo : ∀ b, (v.ownBlock = some b ∨ ∃ i, i < N ∧ (vs i).ownBlock = some b) → b < H)
    (hx : Own wr B x (ns I + k) F) (hc : (∃ g c, vs I = .slice (some ⟨g, 0, none⟩) (ns I) c ∧ x = .slice (some ⟨g, 0, none⟩) (ns I + k) c ∧ ∀ j, j < ns I → F j = -1000 - (I : Int)) ∨ ∀ b, x.ownBlock = some b → H ≤ b)
    (hx' : Own w1 B x' (ns I + k + 1) (joinF (ns I + k) F G))
    (hD : (∃ gg cap, x = .slice (some ⟨gg, 0, none⟩) (ns I + k) cap ∧ x' = .slice (some ⟨gg, 0, none⟩) (ns I + k + 1) cap ∧ (wr.alloc o).grownBy w1 (some gg)) ∨ ((wr.alloc o).grownBy w1 none ∧ ∀ b, x'.ownBlock = some b → (wr.alloc o).heap.size ≤ b)) :
    (ApInT T w B N v vs ns mkAll w1 ∧ Going w1 B H (vs I) (ns I) I (k + 1) x') ∧ H ≤ w1.heap.size := by
  refine ⟨?_, by
    rcases hD with ⟨_, _, _, _, hg⟩ | ⟨hg, _⟩ <;> (have := hg.size; simp at this; omega)⟩
  have hA : ∀ r, (wr.alloc o).grownBy w1 r → ∀ b, b < wr.heap.size → some b ≠ r → w1.heap[b]? = wr.heap[b]? := fun r hg b h1 h2 => by
    rw [hg.block b (by simp; omega) h2, Below.heap_alloc _ _ _ h1]
  rcases hD with ⟨gg, cap, e1, e2, hg⟩ | ⟨hg, hnew⟩
  · have hgx := hx.lt (b := gg) (by rw [e1]; rfl)
    have hBel : Below B wr w1 := ((Below.refl B wr).alloc hB o).grown hg (by simp; omega) fun b e => by cases e; exact hgx.1
    rcases hc with ⟨g, c, u1, u2, hF⟩ | hc
    · rw [e1] at u2
      cases u2
      have hvsI : (vs I).ownBlock = some gg := by rw [u1]; rfl
      refine ⟨⟨h.out.keep fun b e => hA _ hg b (h.out.lt e).2 fun e3 => ?_, ⟨fun i hi => ?_, h.fam.apart⟩, h.apart, h.base, h.below.trans hBel, h.tn, fun k tk hk => (hA _ hg k (Nat.lt_of_lt_of_le hk h.sz) (fun e3 => by cases e3; exact (h.tn _ tk).2 I hI hvsI)).trans (h.kp k tk hk), Nat.le_trans h.sz hBel.size⟩, joinF (ns I + k) F G, hx', .inl ⟨gg, cap, u1, e2, fun j hj => ?_⟩⟩
      · cases e3; exact h.apart _ e I hI hvsI
      · by_cases c : i = I
        · subst c
          rw [u1]
          rw [e2] at hx'
          refine (hx'.take (m := ns i) (by omega)).congr fun j hj => ?_
          rw [joinF_lt (by omega), hF j hj]; rfl
        · refine (h.fam.own i hi).keep fun b e => hA _ hg b ((h.fam.own i hi).lt e).2 fun e3 => ?_
          cases e3; exact h.fam.apart i I hi hI c _ e hvsI
      · rw [joinF_lt (by omega), hF j hj]
    · have hgH := hc gg (by rw [e1]; rfl)
      refine ⟨h.keep (fun b h1 h2 => hA _ hg b h1 fun e3 => by cases e3; have := hlo _ h2; omega) hBel (fun k tk hk => hA _ hg k hk (fun e3 => by cases e3; have := hTw _ tk; omega)), joinF (ns I + k) F G, hx', .inr fun b e => ?_⟩
      rw [e2] at e; cases e; exact hgH
  · have hBel : Below B wr w1 := ((Below.refl B wr).alloc hB o).grown hg (by simp; omega) fun b e => by cases e
    refine ⟨h.keep (fun b h1 _ => hA _ hg b h1 (by simp)) hBel (fun k tk hk => hA _ hg k hk (by simp)), joinF (ns I + k) F G, hx', .inr fun b e => ?_⟩
    have := hnew b e; simp at this; omega

end Go.Proofs.Ytnakadlhafggkaa
