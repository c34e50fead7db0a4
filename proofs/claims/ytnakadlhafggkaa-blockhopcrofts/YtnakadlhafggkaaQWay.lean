/-
  What holds while states are parted by a set that was taken. In plain words, for layer 6.
-/
import Derived.Test.YtnakadlhafggkaaUWay
import Derived.Test.YtnakadlhafggkaaQTake
namespace Go.Proofs.Ytnakadlhafggkaa
open Go.RowKit

/-- The set D0 lies in the row from b to e, and classes and alike states are within it or without. -/
structure Spn (m : Mc) (n : Nat) (s : St) (D0 : Nat → Prop) (b e : Nat) : Prop where
  sp : ∀ u, u < n → (D0 u ↔ b ≤ s.p u ∧ s.p u < e)
  rf : ∀ u v, u < n → v < n → s.c u = s.c v → (D0 u ↔ D0 v)
  al : ∀ u v : Nat, u < n → v < n → alk m (rdV m) (u : Int) (v : Int) = true → (D0 u ↔ D0 v)
section
variable {m : Mc} {n N k K : Nat} {s s' : St} {D0 : Nat → Prop} {b e x : Nat} {c : Nat → Nat} {Wl l W : List Int}
theorem Spn.start (I : PI n s) (snd : ∀ u v : Nat, u < n → v < n → alk m (rdV m) (u : Int) (v : Int) = true → s.c u = s.c v) {q : Nat} (hq : q < s.K) : Spn m n s (fun u => s.c u = q) (s.b q) (s.e q) := by
  refine ⟨fun u hu => ⟨fun e => ?_, fun h => ?_⟩, fun u v _ _ e => by rw [e], fun u v hu hv h => by rw [snd u v hu hv h]⟩
  · have := I.inn u hu
    rw [e] at this; exact this
  · have := I.off q hq (s.p u) h.1 h.2
    rw [(I.pq u hu).2] at this; exact this
theorem Spn.split {c0 : Nat} (h : Spn m n s D0 b e) (I : PI n s) (hs : HsF n s.c s'.c s.K c0 l Wl W) (inn : ∀ u, u < n → s.b (s.c u) ≤ s'.p u ∧ s'.p u < s.e (s.c u)) : Spn m n s' D0 b e := by
  refine ⟨fun u hu => ?_, fun u v hu hv e => h.rf u v hu hv (hs.fine hu hv e).1, h.al⟩
  obtain ⟨h1, h2⟩ := inn u hu
  have hk := I.cc u hu
  have hi : s'.p u < n := by have := (I.sp _ hk).2; omega
  have h3 := I.off _ hk _ h1 h2
  obtain ⟨h4, h5⟩ := I.rr _ hi
  have h6 := h.sp _ h4
  rw [h5] at h6
  rw [← h6]
  exact h.rf u _ hu h4 h3.symm
theorem HA.take {q : Nat} {r : List Int} (h : HA m N k c K ((q : Int) :: r) D0 x) (hx : k ≤ x) : HA m N k c K r (fun u => c u = q) 0 := by
  refine ⟨h.hop.take hx, h.snd, ?_⟩
  have := h.len
  rw [List.length_cons] at this
  omega
theorem HA.drop (h : HA m N k c K Wl D0 x) (hl : ∀ u : Nat, u < N → ((u : Int) ∈ l ↔ D0 (dl m u x))) (f : ∀ u v : Nat, u < N → v < N → c u = c v → ((u : Int) ∈ l ↔ (v : Int) ∈ l)) : HA m N k c K Wl D0 (x + 1) :=
  ⟨h.hop.drop (l := fun u => (u : Int) ∈ l) hl f, h.snd, h.len⟩
/-- What leads by x into the set that was taken. -/
theorem way_mem (R : Right m) (hN : m.n = (N : Int)) (hk : m.k = (k : Int)) (hx : x < k) (I : PI N s) (h : Spn m N s D0 b e) (he : e ≤ N) {u : Nat} (hu : u < N) : (u : Int) ∈ wyL m k x (fun j => s.r (b + j)) (e - b) ↔ D0 (dl m u x) := by
  have hd := dl_lt R hN hk u x hu hx
  rw [wyL_mem R hN hk hx, h.sp _ hd]
  constructor
  · rintro ⟨_, i, hi, e1⟩
    have := (I.rr (b + i) (by omega)).2
    rw [e1, this]
    omega
  · rintro ⟨h1, h2⟩
    refine ⟨hu, s.p (dl m u x) - b, by omega, ?_⟩
    rw [show b + (s.p (dl m u x) - b) = s.p (dl m u x) by omega, (I.pq _ hd).2]
theorem way_inj (I : PI N s) (he : e ≤ N) : ∀ i i', i < e - b → i' < e - b → s.r (b + i) = s.r (b + i') → i = i' := fun i i' h1 h2 h3 => by
  have e1 := (I.rr (b + i) (by omega)).2
  have e2 := (I.rr (b + i') (by omega)).2
  rw [h3, e2] at e1
  omega
/-- As many classes as states: each state is alone. -/
theorem PI.alone (I : PI n s) (h : s.K = n) {u v : Nat} (hu : u < n) (hv : v < n) (e : s.c u = s.c v) : u = v := by
  refine Classical.byContradiction fun hne => ?_
  have hpne : s.p u ≠ s.p v := fun e2 => hne (by rw [← (I.pq u hu).2, ← (I.pq v hv).2, e2])
  -- a state of the class that is not the first of its span
  obtain ⟨t, ht, hc, hb⟩ : ∃ t, t < n ∧ s.c t = s.c u ∧ s.p t ≠ s.b (s.c u) := by
    by_cases c1 : s.p u = s.b (s.c u)
    · exact ⟨v, hv, e.symm, fun e2 => hpne (c1.trans e2.symm)⟩
    · exact ⟨u, hu, rfl, c1⟩
  have hl := nodup_len n ((List.range s.K).map (fun k : Nat => ((s.b k : Nat) : Int)) ++ [((s.p t : Nat) : Int)]) (by
    have inj : ∀ j k, j < s.K → k < s.K → s.b j = s.b k → j = k := fun j k hj hk e2 => by
      have h1 := I.off j hj (s.b j) (Nat.le_refl _) (I.sp j hj).1
      have h2 := I.off k hk (s.b k) (Nat.le_refl _) (I.sp k hk).1
      rw [e2, h2] at h1
      exact h1.symm
    rw [List.nodup_append]
    refine ⟨?_, by simp, fun a ha a' ha' e2 => ?_⟩
    · rw [List.Nodup, List.pairwise_map]
      refine List.Pairwise.imp_of_mem ?_ (List.nodup_range (n := s.K))
      intro j k hj hk hjk e2
      exact hjk (inj j k (List.mem_range.1 hj) (List.mem_range.1 hk) (by omega))
    · have e3 : a' = ((s.p t : Nat) : Int) := by simpa using ha'
      obtain ⟨k, hk, rfl⟩ := List.mem_map.1 ha
      have hk' := List.mem_range.1 hk
      have e4 : s.b k = s.p t := by omega
      have h1 := I.off k hk' (s.b k) (Nat.le_refl _) (I.sp k hk').1
      rw [e4, (I.pq t ht).2, hc] at h1
      rw [← h1] at e4
      exact hb e4.symm) (fun y hy => by
    rcases List.mem_append.1 hy with hy | hy
    · obtain ⟨k, hk, rfl⟩ := List.mem_map.1 hy
      have := I.sp k (List.mem_range.1 hk)
      omega
    · have e3 : y = ((s.p t : Nat) : Int) := by simpa using hy
      have := (I.pq t ht).1
      omega)
  rw [List.length_append, List.length_map, List.length_range] at hl
  simp at hl
  omega
end
/-- How many a slice in a cell has. -/
def lenAt (w : World) (a : Addr) : Nat := match w.cell? a with | some (.slice _ n _) => n | _ => 0
theorem lenAt_of {w : World} {a : Addr} {p : Option Addr} {n c : Nat} (h : w.cell? a = some (.slice p n c)) : lenAt w a = n := by unfold lenAt; rw [h]
/-- What is left to be done. -/
def msW (z pb N : Nat) (w : World) : Nat := lenAt w ⟨z, 1, none⟩ + 2 * (N - lenAt w ⟨pb, 3, none⟩)
theorem Sv.ms {w0 w : World} {z : Nat} {p : Pp} {gs cap : Nat} {s : St} {vq vw : Value} {kw : Nat} {f : Nat → Bool} {Wl : List Int} (h : Sv w0 w z p gs cap s vq vw kw f Wl) (N : Nat) : msW z p.b N w = Wl.length + 2 * (N - s.K) := by
  obtain ⟨a, c, rfl⟩ := h.q.shape
  unfold msW
  rw [lenAt_of h.c1, lenAt_of h.ob.at_.c3]
end Go.Proofs.Ytnakadlhafggkaa
