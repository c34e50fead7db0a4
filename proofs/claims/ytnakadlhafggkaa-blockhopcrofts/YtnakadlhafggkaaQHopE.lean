/-
  The object that parts states: how it begins, and what it has at the end.
-/
import Derived.Test.YtnakadlhafggkaaQWays
import Derived.Test.YtnakadlhafggkaaQByL
namespace Go.Proofs.Ytnakadlhafggkaa
open Go.RowKit

theorem Sg.start {m : Mc} {N k : Nat} {w0 w : World} {z gw : Nat} {p : Pp} {gs : Nat} (R : Right m) (hN : m.n = (N : Int)) (hk : m.k = (k : Int)) (hat : PtS w p gs 1 (St.start N)) (pn : p.n = N) (lo : ∀ k, p.has gs k → w0.heap.size ≤ k) (bl : Below w0.heap.size w0 w)
    (c0 : w.cell? ⟨z, 0, none⟩ = some (.pointer (some ⟨p.b, 0, none⟩))) (c1 : w.cell? ⟨z, 1, none⟩ = some (.slice none 0 0)) (c2 : w.cell? ⟨z, 2, none⟩ = some (.slice (some ⟨gw, 0, none⟩) 1 1)) (f1 : w.frozen? ⟨z, 1, none⟩ = false) (f2 : w.frozen? ⟨z, 2, none⟩ = false)
    (e : OwnE 4 w 0 (.slice (some ⟨gw, 0, none⟩) 1 1) 1 (bv fun _ => false)) (zl : w0.heap.size ≤ z) (zp : ¬ p.has gs z) (gl : w0.heap.size ≤ gw) (gz : gw ≠ z) (gp : ¬ p.has gs gw) :
    Sg m N k w0 w z p gs 1 (St.start N) (.slice none 0 0) (.slice (some ⟨gw, 0, none⟩) 1 1) (fun _ => false) [] (fun _ => False) k := by
  have hN1 : 1 ≤ N := by have := R.n0; omega
  refine ⟨⟨⟨hat, by rw [pn]; exact PI.start hN1, lo, bl⟩, c0, c1, c2, f1, f2, Que.nil w, e, zl, zp, fun b e => (by cases e), fun b e => ?_⟩, ⟨List.nodup_nil, fun x hx => (by cases hx), fun i _ => by simp⟩, HA.start R hN hk, pn⟩
  cases e
  exact ⟨gl, gz, gp, fun e => by cases e⟩
/-- At the end the classes, numbered by their least states, are those of alike states. -/
theorem hop_end {m : Mc} (F : Full m) {N k : Nat} (hN : m.n = (N : Int)) (hk : m.k = (k : Int)) {c : Nat → Nat} (snd : ∀ u v : Nat, u < N → v < N → alk m (rdV m) (u : Int) (v : Int) = true → c u = c v) (nw : ∀ u v, u < N → v < N → c u = c v → ∀ i, i < pp m → oAt m u i = oAt m v i)
    (st : ∀ u v y, u < N → v < N → y < k → c u = c v → c (dl m u y) = c (dl m v y)) : clL (sqR c) N = aftL m (rdV m) := by
  unfold aftL
  rw [show m.n.toNat = N by omega]
  refine (cls_congr fun s t hs ht => ?_).2.1
  have h := HA.iff F.r hN hk snd (fun u v hu hv e => oAt_now F hN hu hv (nw u v hu hv e)) st hs ht
  unfold sqR alkR
  cases x : alk m (rdV m) (s : Int) (t : Int)
  · rw [x] at h
    exact decide_eq_false fun e => by have := h.1 e; cases this
  · exact decide_eq_true (h.2 x)
end Go.Proofs.Ytnakadlhafggkaa
