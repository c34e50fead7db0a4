/-
  What holds while states are parted. In plain words, for layer 6.
-/
import Derived.Test.YtnakadlhafggkaaQHop
import Derived.Test.YtnakadlhafggkaaK8
namespace Go.Proofs.Ytnakadlhafggkaa
open Go.RowKit

/-- Where the state u leads by y. -/
def dl (m : Mc) (u y : Nat) : Nat := (nxt m (u : Int) (y : Int)).toNat
structure HA (m : Mc) (N k : Nat) (c : Nat → Nat) (K : Nat) (Wl : List Int) (D0 : Nat → Prop) (x : Nat) : Prop where
  hop : HopN N k (dl m) c Wl D0 x
  snd : ∀ u v : Nat, u < N → v < N → alk m (rdV m) (u : Int) (v : Int) = true → c u = c v
  len : Wl.length < K
section
variable {m : Mc} {N k K K' : Nat} {c c' : Nat → Nat} {Wl W l : List Int} {D0 : Nat → Prop} {x : Nat}
theorem dl_lt (R : Right m) (hN : m.n = (N : Int)) (hk : m.k = (k : Int)) : ∀ s y, s < N → y < k → dl m s y < N := fun s y hs hy => by
  have := nxt_range R (s := (s : Int)) (by omega) (by omega) (x := y) (by omega)
  unfold dl
  omega
theorem HA.split (h : HA m N k c K Wl D0 x) (R : Right m) (hN : m.n = (N : Int)) (hk : m.k = (k : Int)) (hs : HsF N c c' K K' l Wl W) (hl : ∀ u v : Nat, u < N → v < N → alk m (rdV m) (u : Int) (v : Int) = true → ((u : Int) ∈ l ↔ (v : Int) ∈ l)) : HA m N k c' K' W D0 x := by
  refine ⟨h.hop.split (l := fun u => (u : Int) ∈ l) (dl_lt R hN hk) (fun u v hu hv => hs.f u v hu hv) hs.w2 hs.w3, fun u v hu hv e => (hs.f u v hu hv).2 ⟨h.snd u v hu hv e, hl u v hu hv e⟩, ?_⟩
  have := hs.len
  have := h.len
  omega
/-- Those of one class stay of one class only if the split does not tell them apart. -/
theorem HsF.fine (hs : HsF N c c' K K' l Wl W) {u v : Nat} (hu : u < N) (hv : v < N) (e : c' u = c' v) : c u = c v ∧ ((u : Int) ∈ l ↔ (v : Int) ∈ l) := (hs.f u v hu hv).1 e
theorem HA.start (R : Right m) (hN : m.n = (N : Int)) (hk : m.k = (k : Int)) : HA m N k (fun _ => 0) 1 [] (fun _ => False) k :=
  ⟨HopN.start (fun _ _ => rfl) (dl_lt R hN hk), fun _ _ _ _ _ => rfl, by simp⟩
/-- The end: the classes are those of alike states. -/
theorem HA.iff (R : Right m) (hN : m.n = (N : Int)) (hk : m.k = (k : Int)) (snd : ∀ u v : Nat, u < N → v < N → alk m (rdV m) (u : Int) (v : Int) = true → c u = c v) (hnow : ∀ u v : Nat, u < N → v < N → c u = c v → nowB m (u : Int) (v : Int) = true)
    (hst : ∀ u v y : Nat, u < N → v < N → y < k → c u = c v → c (dl m u y) = c (dl m v y)) {u v : Nat} (hu : u < N) (hv : v < N) : c u = c v ↔ alk m (rdV m) (u : Int) (v : Int) = true := by
  refine ⟨fun e => ?_, snd u v hu hv⟩
  refine alk_of_stable R (Q := fun s t => c s.toNat = c t.toNat) (fun s t s0 s1 t0 t1 e => ?_) (fun s t s0 s1 t0 t1 e y hy => ?_) _ (by omega) (by omega) (by omega) (by omega) (by simpa using e)
  · have := hnow s.toNat t.toNat (by omega) (by omega) e
    rwa [Int.toNat_of_nonneg s0, Int.toNat_of_nonneg t0] at this
  · have := hst s.toNat t.toNat y (by omega) (by omega) (by omega) e
    unfold dl at this
    rwa [Int.toNat_of_nonneg s0, Int.toNat_of_nonneg t0] at this
end
end Go.Proofs.Ytnakadlhafggkaa
