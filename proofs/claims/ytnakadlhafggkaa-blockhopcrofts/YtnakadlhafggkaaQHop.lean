/-
  What a split leaves waiting, in plain words: enough of what it split.
-/
import Derived.Test.YtnakadlhafggkaaUHopN
import Derived.Test.YtnakadlhafggkaaQSvSplit
namespace Go.Proofs.Ytnakadlhafggkaa
open Go.RowKit

/-- What a split does to classes and to what waits. -/
structure HsF (n : Nat) (c c' : Nat → Nat) (K K' : Nat) (l Wl W : List Int) : Prop where
  f : ∀ u v, u < n → v < n → (c' u = c' v ↔ c u = c v ∧ ((u : Int) ∈ l ↔ (v : Int) ∈ l))
  w2 : ∀ u v, u < n → v < n → c u = c v → c' u ≠ c' v → ((c' u : Nat) : Int) ∈ W ∨ ((c' v : Nat) : Int) ∈ W
  w3 : ∀ u, u < n → ((c u : Nat) : Int) ∈ Wl → ((c' u : Nat) : Int) ∈ W
  len : W.length + K = Wl.length + K'
  up : K ≤ K'

theorem HsF.of {n : Nat} {s s' : St} {l Wl W : List Int} {G : Nat → Nat → Int} (I : PI n s) (hK : s'.K = s.K + mixN (tab n s.c) l s.K) (hc : tab n s'.c = spC (tab n s.c) l s.K s.K) (hcu : Cuts (tab n s.c) l s.K s.K G) (hv : Hv G Wl (mixN (tab n s.c) l s.K) W) : HsF n s.c s'.c s.K s'.K l Wl W := by
  have P := I.part
  have hl : (tab n s.c).length = n := tab_len _ _
  have at' : ∀ u, u < n → ((s'.c u : Nat) : Int) = spTo (tab n s.c) l s.K s.K u := fun u hu => by
    rw [← tab_at s'.c hu, hc, spC_at (by rw [hl]; exact hu)]
  have atc : ∀ u, u < n → (tab n s.c).getD u 0 = ((s.c u : Nat) : Int) := fun u hu => tab_at _ hu
  have f : ∀ u v, u < n → v < n → (s'.c u = s'.c v ↔ s.c u = s.c v ∧ ((u : Int) ∈ l ↔ (v : Int) ∈ l)) := fun u v hu hv => by
    have h := sp_iff (l := l) P (i := u) (k := v) (by rw [hl]; exact hu) (by rw [hl]; exact hv)
    rw [← at' u hu, ← at' v hv, atc u hu, atc v hv] at h
    have e1 : inB l u = inB l v ↔ ((u : Int) ∈ l ↔ (v : Int) ∈ l) := by
      unfold inB
      rw [decide_eq_decide]
    rw [e1] at h
    constructor
    · intro e
      have := h.1 (by rw [e])
      exact ⟨by omega, this.2⟩
    · intro e
      have := h.2 ⟨by rw [e.1], e.2⟩
      omega
  obtain ⟨H, rfl, hHl, hH⟩ := hv
  -- a class that is mixed: which half waits
  have half : ∀ q : Nat, q < s.K → mixB (tab n s.c) l (q : Int) = true → ∃ j, j = mixN (tab n s.c) l q ∧ ((((s.K + j : Nat)) : Int) ∈ H ∨ ((q : Int) ∈ H ∧ (q : Int) ∉ Wl)) := fun q hq hm => by
    have hj := mixN_lt hm hq
    obtain ⟨c0, h1, h2, h3, h4, h5⟩ := hcu _ hj
    have e : c0 = q := mixN_inj h2 hm h3
    subst e
    refine ⟨_, rfl, ?_⟩
    have hg : H.getD (mixN (tab n s.c) l c0) 0 ∈ H := gd_mem (by omega)
    rcases hH _ hj with e | ⟨e, e2⟩
    · left; rw [h5] at e; rw [← e]; exact hg
    · right; rw [h4] at e e2; exact ⟨by rw [← e]; exact hg, e2⟩
  have inl : ∀ u, u < n → ((u : Int) ∈ l ↔ inB l u = true) := fun u _ => by unfold inB; simp
  -- where a state of a mixed class goes
  have goes : ∀ u, u < n → mixB (tab n s.c) l ((s.c u : Nat) : Int) = true → (u : Int) ∈ l → s'.c u = s.K + mixN (tab n s.c) l (s.c u) := fun u hu hm hi => by
    have h := at' u hu
    unfold spTo at h
    rw [atc u hu, if_pos ⟨hm, (inl u hu).1 hi, by have := I.cc u hu; omega⟩] at h
    rw [Int.toNat_natCast] at h
    omega
  have stays : ∀ u, u < n → ¬ ((u : Int) ∈ l ∧ mixB (tab n s.c) l ((s.c u : Nat) : Int) = true) → s'.c u = s.c u := fun u hu hm => by
    have h := at' u hu
    unfold spTo at h
    rw [atc u hu, if_neg (fun e => hm ⟨(inl u hu).2 e.2.1, e.1⟩)] at h
    omega
  have mixed : ∀ u v, u < n → v < n → s.c u = s.c v → (u : Int) ∈ l → (v : Int) ∉ l → mixB (tab n s.c) l ((s.c u : Nat) : Int) = true := fun u v hu hv e hi hn => by
    refine mix_iff.2 ⟨⟨u, by rw [hl]; exact hu, atc u hu, (inl u hu).1 hi⟩, ⟨v, by rw [hl]; exact hv, by rw [atc v hv, e], ?_⟩⟩
    cases x : inB l v
    · rfl
    · exact absurd ((inl v hv).2 x) hn
  have one : ∀ u v, u < n → v < n → s.c u = s.c v → (u : Int) ∈ l → (v : Int) ∉ l → ((s'.c u : Nat) : Int) ∈ Wl ++ H ∨ ((s'.c v : Nat) : Int) ∈ Wl ++ H := fun u v hu hv e hi hn => by
    have hm := mixed u v hu hv e hi hn
    obtain ⟨j, rfl, hj⟩ := half (s.c u) (I.cc u hu) hm
    have e1 := goes u hu hm hi
    have e2 := stays v hv (fun x => hn x.1)
    rcases hj with hj | hj
    · left; rw [e1]; exact List.mem_append_right _ hj
    · right; rw [e2, ← e]; exact List.mem_append_right _ hj.1
  refine ⟨f, fun u v hu hv e hne => ?_, fun u hu hw => ?_, by rw [List.length_append, hHl]; omega, by omega⟩
  · by_cases hu' : (u : Int) ∈ l
    · by_cases hv' : (v : Int) ∈ l
      · exact absurd ((f u v hu hv).2 ⟨e, by simp [hu', hv']⟩) hne
      · exact one u v hu hv e hu' hv'
    · by_cases hv' : (v : Int) ∈ l
      · exact (one v u hv hu e.symm hv' hu').symm
      · exact absurd ((f u v hu hv).2 ⟨e, by simp [hu', hv']⟩) hne
  · by_cases hm : (u : Int) ∈ l ∧ mixB (tab n s.c) l ((s.c u : Nat) : Int) = true
    · obtain ⟨j, rfl, hj⟩ := half (s.c u) (I.cc u hu) hm.2
      rw [goes u hu hm.2 hm.1]
      rcases hj with hj | hj
      · exact List.mem_append_right _ hj
      · exact absurd hw hj.2
    · rw [stays u hu hm]
      exact List.mem_append_left _ hw
theorem SvPost.hs {w0 w : World} {z : Nat} {p : Pp} {gs : Nat} {s : St} {vq vw : Value} {Wl l : List Int} {w' : World} {gs' cap' : Nat} {s' : St} {vq' vw' : Value} {f' : Nat → Bool} {W : List Int} (h : SvPost w0 w z p gs s vq vw Wl l w' gs' cap' s' vq' vw' f' W) (I : PI p.n s) : HsF p.n s.c s'.c s.K s'.K l Wl W := by
  obtain ⟨G, h1, h2⟩ := h.hv
  exact HsF.of I h.K h.c h1 h2
end Go.Proofs.Ytnakadlhafggkaa
