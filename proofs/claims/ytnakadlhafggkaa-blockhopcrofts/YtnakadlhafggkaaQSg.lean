/-
  The object that parts states, with all that holds of it; rows that it does not touch.
-/
import Derived.Test.YtnakadlhafggkaaQHopA
import Derived.Test.YtnakadlhafggkaaQBkt
namespace Go.Proofs.Ytnakadlhafggkaa
open Go.RowKit

structure Sg (m : Mc) (N k : Nat) (w0 w : World) (z : Nat) (p : Pp) (gs cap : Nat) (s : St) (vq vw : Value) (f : Nat → Bool) (Wl : List Int) (D0 : Nat → Prop) (x : Nat) : Prop where
  sv : Sv w0 w z p gs cap s vq vw s.K f Wl
  wn : Wn s.K f Wl
  ha : HA m N k s.c s.K Wl D0 x
  pn : p.n = N
section
variable {m : Mc} {N k : Nat} {w0 w w' : World} {z : Nat} {p : Pp} {gs cap : Nat} {s : St} {vq vw : Value} {f : Nat → Bool} {Wl : List Int} {D0 : Nat → Prop} {x : Nat}
theorem Sg.on (h : Sg m N k w0 w z p gs cap s vq vw f Wl D0 x) (hb : Below w.heap.size w w') : Sg m N k w0 w' z p gs cap s vq vw f Wl D0 x := ⟨h.sv.on hb, h.wn, h.ha, h.pn⟩
theorem Sg.draws (h : Sg m N k w0 w z p gs cap s vq vw f Wl D0 x) (n : Nat) : Sg m N k w0 (w.drewN n) z p gs cap s vq vw f Wl D0 x := ⟨h.sv.draws n, h.wn, h.ha, h.pn⟩
theorem Sg.split {l : List Int} {gs' cap' : Nat} {s' : St} {vq' vw' : Value} {f' : Nat → Bool} {W : List Int} (h : Sg m N k w0 w z p gs cap s vq vw f Wl D0 x) (R : Right m) (hN : m.n = (N : Int)) (hk : m.k = (k : Int)) (hp : SvPost w0 w z p gs s vq vw Wl l w' gs' cap' s' vq' vw' f' W) (hl : ∀ u v : Nat, u < N → v < N → alk m (rdV m) (u : Int) (v : Int) = true → ((u : Int) ∈ l ↔ (v : Int) ∈ l)) :
    Sg m N k w0 w' z p gs' cap' s' vq' vw' f' W D0 x ∧ HsF N s.c s'.c s.K s'.K l Wl W := by
  have hs := hp.hs h.sv.ob.pi
  rw [h.pn] at hs
  exact ⟨⟨hp.sv, hp.wn, h.ha.split R hN hk hs hl, h.pn⟩, hs⟩
theorem Sg.lenW (h : Sg m N k w0 w z p gs cap s vq vw f Wl D0 x) : Wl.length < N := by
  have h1 := h.ha.len
  have h2 := h.sv.ob.pi.Kn
  rw [h.pn] at h2
  omega
end
/-- Rows that lie outside of X. -/
structure Rw (w : World) (g n : Nat) (vs : Nat → Value) (L : Nat → List Int) (X : Nat → Prop) : Prop where
  cell : ∀ i, i < n → w.cell? ⟨g, i, none⟩ = some (vs i)
  own : ∀ i, i < n → OwnL .i64 3 w 0 (vs i) (L i)
  og : ¬ X g
  off : ∀ i, i < n → ∀ b, (vs i).ownBlock = some b → ¬ X b
theorem Rw.step {w w' : World} {g n : Nat} {vs : Nat → Value} {L : Nat → List Int} {X X' : Nat → Prop} (h : Rw w g n vs L X) (hn : 0 < n) (hb : Bx X w w') (hx : ∀ b, b < w.heap.size → X' b → X b) : Rw w' g n vs L X' := by
  have hg := World.block_lt_of_cell? w _ (h.cell 0 hn)
  refine ⟨fun i hi => hb.cell (h.cell i hi) h.og, fun i hi => (h.own i hi).bx hb (h.off i hi), fun e => h.og (hx g hg e), fun i hi b e e2 => h.off i hi b e (hx b ((h.own i hi).lt e).2 e2)⟩
theorem Bkt.rw {w0 w : World} {g n : Nat} {vs : Nat → Value} {L : Nat → List Int} {X : Nat → Prop} (h : Bkt w0 w g n vs L) (hx : ∀ b, X b → b < w0.heap.size) : Rw w g n vs L X :=
  ⟨fun i hi => (h.cell i hi).1, fun i hi => (h.own i hi).mono (Nat.zero_le _), fun e => by have := hx g e; have := h.lo; omega, fun i hi b e e2 => by have := hx b e2; have := ((h.own i hi).lt e).1; omega⟩
theorem Sv.xlt {w0 w : World} {z : Nat} {p : Pp} {gs cap : Nat} {s : St} {vq vw : Value} {kw : Nat} {f : Nat → Bool} {Wl : List Int} (h : Sv w0 w z p gs cap s vq vw kw f Wl) : ∀ b, SvX z p gs vq vw b → b < w.heap.size := fun b hx => by
  rcases hx with e | e | e | e
  · have := h.lt; omega
  · exact PtAt.lt h.ob.at_ e
  · exact h.q.lt e
  · exact (h.e.lt e).2

/-- The first j states that say o at i. -/
def syL (out : List Int) (P i j o : Nat) : List Int := ((List.range j).filter fun s => decide ((out.getD (s * P + i) 0).toNat = o)).map fun s : Nat => (s : Int)
theorem syL_next (out : List Int) (P i j : Nat) : syL out P i (j + 1) = updV (syL out P i j) (out.getD (j * P + i) 0).toNat (syL out P i j (out.getD (j * P + i) 0).toNat ++ [(j : Int)]) := by
  funext o
  unfold syL updV
  rw [List.range_succ, List.filter_append, List.map_append]
  by_cases e : o = (out.getD (j * P + i) 0).toNat
  · subst e; simp
  · rw [if_neg e]
    have : decide ((out.getD (j * P + i) 0).toNat = o) = false := decide_eq_false fun h => e h.symm
    rw [List.filter_cons_of_neg (by rw [this]; simp)]
    simp
theorem syL_len (out : List Int) (P i j o : Nat) : (syL out P i j o).length ≤ j := by
  unfold syL
  rw [List.length_map]
  exact Nat.le_trans (List.length_filter_le _ _) (by simp)
theorem syL_mem {out : List Int} {P i j o u : Nat} : (u : Int) ∈ syL out P i j o ↔ u < j ∧ (out.getD (u * P + i) 0).toNat = o := by
  unfold syL
  simp only [List.mem_map, List.mem_filter, List.mem_range, decide_eq_true_eq]
  constructor
  · rintro ⟨y, ⟨h1, h2⟩, e⟩
    have : y = u := by omega
    subst this
    exact ⟨h1, h2⟩
  · rintro ⟨h1, h2⟩; exact ⟨u, ⟨h1, h2⟩, rfl⟩
theorem syL_rng {out : List Int} {P i j o : Nat} {y : Int} (h : y ∈ syL out P i j o) : 0 ≤ y ∧ y < (j : Int) := by
  unfold syL at h
  simp only [List.mem_map, List.mem_filter, List.mem_range] at h
  obtain ⟨u, ⟨h1, _⟩, rfl⟩ := h
  omega
end Go.Proofs.Ytnakadlhafggkaa
