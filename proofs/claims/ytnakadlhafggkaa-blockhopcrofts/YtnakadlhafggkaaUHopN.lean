/-
  Splitting classes of states by sets that wait: what waits tells apart what is led apart. In plain words, for layer 6.
-/
import Derived.Test.YtnakadlhafggkaaK1
namespace Go.Proofs.Ytnakadlhafggkaa

/-- The set D waits with the symbol y: a class that waits, or what was taken, with the symbols from x on. -/
def Wt (c : Nat → Nat) (Wl : List Int) (D0 : Nat → Prop) (x : Nat) (D : Nat → Prop) (y : Nat) : Prop :=
  (∃ q : Nat, (q : Int) ∈ Wl ∧ ∀ u, D u ↔ c u = q) ∨ ((∀ u, D u ↔ D0 u) ∧ x ≤ y)
def Sep (D : Nat → Prop) (u v : Nat) : Prop := D u ∧ ¬ D v ∨ ¬ D u ∧ D v
theorem Sep.symm {D : Nat → Prop} {u v : Nat} (h : Sep D u v) : Sep D v u := h.elim (fun h => .inr ⟨h.2, h.1⟩) (fun h => .inl ⟨h.2, h.1⟩)
/-- Where two states of one class are led apart by a symbol, what waits with that symbol tells them apart. -/
def HopN (N k : Nat) (δ : Nat → Nat → Nat) (c : Nat → Nat) (Wl : List Int) (D0 : Nat → Prop) (x : Nat) : Prop :=
  ∀ s t, s < N → t < N → c s = c t → ∀ y, y < k → c (δ s y) ≠ c (δ t y) → ∃ D, Wt c Wl D0 x D y ∧ Sep D (δ s y) (δ t y)

section
variable {N k : Nat} {δ : Nat → Nat → Nat} {c c' : Nat → Nat} {Wl Wl' : List Int} {D0 : Nat → Prop} {x : Nat}
theorem HopN.start (h : ∀ s, s < N → c s = 0) (hδ : ∀ s y, s < N → y < k → δ s y < N) : HopN N k δ c Wl D0 x := fun s t hs ht _ y hy hne =>
  absurd ((h _ (hδ s y hs hy)).trans (h _ (hδ t y ht hy)).symm) hne
/-- A class is taken. -/
theorem HopN.take {q : Nat} {r : List Int} (h : HopN N k δ c ((q : Int) :: r) D0 x) (hx : k ≤ x) : HopN N k δ c r (fun u => c u = q) 0 := fun s t hs ht e y hy hne => by
  obtain ⟨D, hD, hs⟩ := h s t hs ht e y hy hne
  refine ⟨D, ?_, hs⟩
  rcases hD with ⟨p, hp, hd⟩ | ⟨_, h2⟩
  · rcases List.mem_cons.1 hp with e2 | e2
    · have : p = q := by omega
      subst this
      exact .inr ⟨hd, Nat.zero_le _⟩
    · exact .inl ⟨p, e2, hd⟩
  · omega
/-- A split by any set l. -/
theorem HopN.split {l : Nat → Prop} (h : HopN N k δ c Wl D0 x) (hδ : ∀ s y, s < N → y < k → δ s y < N) (f : ∀ u v, u < N → v < N → (c' u = c' v ↔ c u = c v ∧ (l u ↔ l v)))
    (w2 : ∀ u v, u < N → v < N → c u = c v → c' u ≠ c' v → ((c' u : Nat) : Int) ∈ Wl' ∨ ((c' v : Nat) : Int) ∈ Wl') (w3 : ∀ u, u < N → ((c u : Nat) : Int) ∈ Wl → ((c' u : Nat) : Int) ∈ Wl') : HopN N k δ c' Wl' D0 x := fun s t hs ht e y hy hne => by
  have hu := hδ s y hs hy
  have hv := hδ t y ht hy
  by_cases c1 : c (δ s y) = c (δ t y)
  · rcases w2 _ _ hu hv c1 hne with g | g
    · exact ⟨fun z => c' z = c' (δ s y), .inl ⟨_, g, fun _ => Iff.rfl⟩, .inl ⟨rfl, fun e2 => hne e2.symm⟩⟩
    · exact ⟨fun z => c' z = c' (δ t y), .inl ⟨_, g, fun _ => Iff.rfl⟩, .inr ⟨hne, rfl⟩⟩
  · obtain ⟨D, hD, hsep⟩ := h s t hs ht ((f s t hs ht).1 e).1 y hy c1
    rcases hD with ⟨q, hq, hd⟩ | hD
    · have one : ∀ u v, u < N → v < N → D u → ¬ D v → ∃ D', Wt c' Wl' D0 x D' y ∧ (D' u ∧ ¬ D' v) := fun u v hu hv du dv => by
        have e1 := (hd u).1 du
        refine ⟨fun z => c' z = c' u, .inl ⟨_, w3 u hu (by rw [e1]; exact hq), fun _ => Iff.rfl⟩, rfl, fun e2 => dv ((hd v).2 ?_)⟩
        rw [← e1]; exact ((f v u hv hu).1 e2).1
      rcases hsep with ⟨a, b⟩ | ⟨a, b⟩
      · obtain ⟨D', h1, h2⟩ := one _ _ hu hv a b
        exact ⟨D', h1, .inl h2⟩
      · obtain ⟨D', h1, h2⟩ := one _ _ hv hu b a
        exact ⟨D', h1, .inr ⟨h2.2, h2.1⟩⟩
    · exact ⟨D, .inr hD, hsep⟩
/-- Behind the split by what leads into D0 by x, that need not wait any more. -/
theorem HopN.drop {l : Nat → Prop} (h : HopN N k δ c Wl D0 x) (hl : ∀ u, u < N → (l u ↔ D0 (δ u x))) (f : ∀ u v, u < N → v < N → c u = c v → (l u ↔ l v)) : HopN N k δ c Wl D0 (x + 1) := fun s t hs ht e y hy hne => by
  obtain ⟨D, hD, hsep⟩ := h s t hs ht e y hy hne
  refine ⟨D, ?_, hsep⟩
  rcases hD with hD | ⟨hd, hx⟩
  · exact .inl hD
  · refine .inr ⟨hd, ?_⟩
    by_cases c1 : y = x
    · exfalso
      subst c1
      have h1 := f s t hs ht e
      rw [hl s hs, hl t ht, ← hd, ← hd] at h1
      rcases hsep with ⟨a, b⟩ | ⟨a, b⟩
      · exact b (h1.1 a)
      · exact a (h1.2 b)
    · omega
/-- Nothing waits. -/
theorem HopN.done (h : HopN N k δ c [] D0 x) (hx : k ≤ x) {s t y : Nat} (hs : s < N) (ht : t < N) (e : c s = c t) (hy : y < k) : c (δ s y) = c (δ t y) :=
  Classical.byContradiction fun hne => by
    obtain ⟨D, hD, _⟩ := h s t hs ht e y hy hne
    rcases hD with ⟨_, hq, _⟩ | ⟨_, h2⟩
    · cases hq
    · omega
end
end Go.Proofs.Ytnakadlhafggkaa
