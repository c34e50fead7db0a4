/-
  What holds of the states that can be come to and their words: each once, in the words' order, each word the first one that leads to its state.
-/
import Derived.Test.YtdlcbjbcehpooaaTSpec
namespace Go.Proofs.Ytdlcbjbcehpooaa
open Go.RowKit

theorem gd_left {α : Type} {l r : List α} {i : Nat} (d : α) (h : i < l.length) : (l ++ r).getD i d = l.getD i d := by
  simp only [List.getD, List.getElem?_append_left h]
theorem gd_mid {α : Type} (l : List α) (a d : α) : (l ++ [a]).getD l.length d = a := by simp
theorem gd_mem {l : List Int} {i : Nat} (h : i < l.length) : l.getD i 0 ∈ l := by
  simp only [List.getD, List.getElem?_eq_getElem h, Option.getD_some]
  exact List.getElem_mem h
theorem mem_gd {l : List Int} {a : Int} (h : a ∈ l) : ∃ p, p < l.length ∧ l.getD p 0 = a := by
  obtain ⟨p, hp, e⟩ := List.getElem_of_mem h
  exact ⟨p, hp, by simp [List.getD, List.getElem?_eq_getElem hp, e]⟩
theorem nd_inj {l : List Int} (hd : l.Nodup) {p q : Nat} (hp : p < l.length) (hq : q < l.length) (e : l.getD p 0 = l.getD q 0) : p = q := by
  simp only [List.getD, List.getElem?_eq_getElem hp, List.getElem?_eq_getElem hq, Option.getD_some] at e
  have hw := List.pairwise_iff_getElem.1 hd
  rcases Nat.lt_trichotomy p q with h | h | h
  · exact absurd e (hw p q hp hq h)
  · exact h
  · exact absurd e.symm (hw q p hq hp h)

theorem nxt_range {m : Mc} (R : Right m) {s : Int} {x : Nat} (s0 : 0 ≤ s) (s1 : s < m.n) (hx : (x : Int) < m.k) : 0 ≤ nxt m s x ∧ nxt m s x < m.n := by
  obtain ⟨P, hP, hPl, _⟩ := way_of R s0 s1 (x := (x : Int)) (by omega) hx
  unfold nxt
  rw [hP, Int.toNat_natCast]
  exact R.st P hPl

/-- What holds at the place (i, x). -/
structure RInv (m : Mc) (i x : Nat) (S : List Int) (V : List (List Int)) : Prop where
  len : S.length = V.length
  ne : 0 < S.length
  s0 : S.getD 0 0 = 0
  v0 : V.getD 0 [] = []
  nd : S.Nodup
  rng : ∀ p, p < S.length → 0 ≤ S.getD p 0 ∧ S.getD p 0 < m.n
  il : i ≤ S.length
  xl : (x : Int) ≤ m.k
  lead : ∀ p, p < S.length → ends m 0 (V.getD p []) = S.getD p 0
  sym : ∀ p, p < S.length → ∀ y ∈ V.getD p [], 0 ≤ y ∧ y < m.k
  par : ∀ p, 0 < p → p < S.length → ∃ j y : Nat, j < p ∧ (j < i ∨ (j = i ∧ y < x)) ∧ (y : Int) < m.k ∧ V.getD p [] = V.getD j [] ++ [(y : Int)]
  srt : ∀ p q, p < q → q < S.length → Ahd (V.getD p []) (V.getD q [])
  cov : ∀ j y : Nat, (j < i ∧ (y : Int) < m.k ∨ j = i ∧ y < x) → j < S.length → ∃ p, p < S.length ∧ S.getD p 0 = nxt m (S.getD j 0) y ∧ (V.getD p [] = V.getD j [] ++ [(y : Int)] ∨ Ahd (V.getD p []) (V.getD j [] ++ [(y : Int)]))

theorem RInv.start {m : Mc} (R : Right m) : RInv m 0 0 [0] [[]] := by
  have := R.n0
  have := R.k0
  refine ⟨rfl, by simp, rfl, rfl, by simp, fun p hp => ?_, by simp, by simp; omega, fun p hp => ?_, fun p hp y hy => ?_, fun p h1 h2 => ?_, fun p q h1 h2 => ?_, fun j y h _ => by omega⟩
  · obtain rfl : p = 0 := by simpa using hp
    simp; omega
  · obtain rfl : p = 0 := by simpa using hp
    rfl
  · obtain rfl : p = 0 := by simpa using hp
    simp at hy
  · simp at h2; omega
  · simp at h2; omega

/-- All words so far are ahead of the next one. -/
theorem RInv.ahead {m : Mc} {i x : Nat} {S : List Int} {V : List (List Int)} (h : RInv m i x S V) (hi : i < S.length) (p : Nat) (hp : p < S.length) : Ahd (V.getD p []) (V.getD i [] ++ [(x : Int)]) := by
  by_cases e : p = 0
  · subst e; rw [h.v0]; exact Ahd.nil _ _
  · obtain ⟨j, y, _, hc, _, ev⟩ := h.par p (by omega) hp
    rw [ev]
    rcases hc with hc | ⟨rfl, hc⟩
    · exact (h.srt j i hc hi).snoc _ _
    · exact Ahd.last _ (by omega)

theorem RInv.old {m : Mc} {i x : Nat} {S : List Int} {V : List (List Int)} (h : RInv m i x S V) (hi : i < S.length) (hx : (x : Int) < m.k) (ht : nxt m (S.getD i 0) x ∈ S) : RInv m i (x + 1) S V := by
  refine ⟨h.len, h.ne, h.s0, h.v0, h.nd, h.rng, h.il, by omega, h.lead, h.sym, fun p h1 h2 => ?_, h.srt, fun j y hc hj => ?_⟩
  · obtain ⟨j, y, a, b, c, d⟩ := h.par p h1 h2
    exact ⟨j, y, a, by omega, c, d⟩
  · by_cases e : j = i ∧ y = x
    · obtain ⟨rfl, rfl⟩ := e
      obtain ⟨p, hp, ep⟩ := mem_gd ht
      exact ⟨p, hp, ep, .inr (h.ahead hi p hp)⟩
    · exact h.cov j y (by omega) hj

theorem RInv.row {m : Mc} {i x : Nat} {S : List Int} {V : List (List Int)} (h : RInv m i x S V) (hi : i < S.length) (hx : ¬ (x : Int) < m.k) (k0 : 1 ≤ m.k) : RInv m (i + 1) 0 S V := by
  have hxl := h.xl
  refine ⟨h.len, h.ne, h.s0, h.v0, h.nd, h.rng, hi, by omega, h.lead, h.sym, fun p h1 h2 => ?_, h.srt, fun j y hc hj => ?_⟩
  · obtain ⟨j, y, a, b, c, d⟩ := h.par p h1 h2
    exact ⟨j, y, a, by omega, c, d⟩
  · exact h.cov j y (by omega) hj

theorem RInv.new {m : Mc} {i x : Nat} {S : List Int} {V : List (List Int)} (R : Right m) (h : RInv m i x S V) (hi : i < S.length) (hx : (x : Int) < m.k) (ht : ¬ nxt m (S.getD i 0) x ∈ S) :
    RInv m i (x + 1) (S ++ [nxt m (S.getD i 0) x]) (V ++ [V.getD i [] ++ [(x : Int)]]) := by
  have hlen := h.len
  have hiV : i < V.length := by omega
  have hr := h.rng i hi
  have hnr := nxt_range R hr.1 hr.2 hx
  have L : (S ++ [nxt m (S.getD i 0) x]).length = S.length + 1 := by simp
  have gS : ∀ p, p < S.length → (S ++ [nxt m (S.getD i 0) x]).getD p 0 = S.getD p 0 := fun p hp => gd_left 0 hp
  have gV : ∀ p, p < S.length → (V ++ [V.getD i [] ++ [(x : Int)]]).getD p [] = V.getD p [] := fun p hp => gd_left [] (by omega)
  have eS : (S ++ [nxt m (S.getD i 0) x]).getD S.length 0 = nxt m (S.getD i 0) x := gd_mid _ _ _
  have eV : (V ++ [V.getD i [] ++ [(x : Int)]]).getD S.length [] = V.getD i [] ++ [(x : Int)] := by rw [hlen]; exact gd_mid _ _ _
  refine ⟨by simp [hlen], by simp, by rw [gS 0 h.ne]; exact h.s0, by rw [gV 0 h.ne]; exact h.v0, ?_, fun p hp => ?_, by rw [L]; omega, by omega, fun p hp => ?_, fun p hp => ?_, fun p h1 h2 => ?_, fun p q h1 h2 => ?_, fun j y hc hj => ?_⟩
  · rw [List.nodup_append]
    refine ⟨h.nd, by simp, fun a ha b hb e => ?_⟩
    rw [List.mem_singleton] at hb
    rw [hb] at e
    exact ht (e ▸ ha)
  · rw [L] at hp
    by_cases e : p = S.length
    · subst e; rw [eS]; exact hnr
    · rw [gS p (by omega)]; exact h.rng p (by omega)
  · rw [L] at hp
    by_cases e : p = S.length
    · subst e; rw [eS, eV, ends_snoc, h.lead i hi]
    · rw [gS p (by omega), gV p (by omega)]; exact h.lead p (by omega)
  · rw [L] at hp
    by_cases e : p = S.length
    · subst e
      rw [eV]
      intro y hy
      rw [List.mem_append] at hy
      rcases hy with hy | hy
      · exact h.sym i hi y hy
      · rw [List.mem_singleton] at hy; subst hy; omega
    · rw [gV p (by omega)]; exact h.sym p (by omega)
  · rw [L] at h2
    by_cases e : p = S.length
    · subst e
      exact ⟨i, x, hi, by omega, hx, by rw [eV, gV i hi]⟩
    · obtain ⟨j, y, a, b, c, d⟩ := h.par p h1 (by omega)
      exact ⟨j, y, a, by omega, c, by rw [gV p (by omega), gV j (by omega)]; exact d⟩
  · rw [L] at h2
    by_cases e : q = S.length
    · subst e
      rw [eV, gV p h1]
      exact h.ahead hi p h1
    · rw [gV p (by omega), gV q (by omega)]; exact h.srt p q h1 (by omega)
  · have hj' : j < S.length := by omega
    rw [gS j hj', gV j hj']
    by_cases e : j = i ∧ y = x
    · obtain ⟨rfl, rfl⟩ := e
      exact ⟨S.length, by rw [L]; omega, by rw [eS], .inl (by rw [eV])⟩
    · obtain ⟨p, hp, a, b⟩ := h.cov j y (by omega) hj'
      exact ⟨p, by rw [L]; omega, by rw [gS p hp]; exact a, by rw [gV p hp]; exact b⟩

theorem RInv.size {m : Mc} {i x : Nat} {S : List Int} {V : List (List Int)} (R : Right m) (h : RInv m i x S V) : S.length ≤ m.n.toNat := by
  refine nodup_le _ S h.nd fun a ha => ?_
  obtain ⟨p, hp, rfl⟩ := mem_gd ha
  have := h.rng p hp
  have := R.n0
  omega

theorem RInv.last {m : Mc} {x : Nat} {S : List Int} {V : List (List Int)} (h : RInv m S.length x S V) (R : Right m) : RInv m S.length 0 S V := by
  have k0 := R.k0
  refine ⟨h.len, h.ne, h.s0, h.v0, h.nd, h.rng, h.il, by omega, h.lead, h.sym, fun p h1 h2 => ?_, h.srt, fun j y hc hj => h.cov j y (by omega) hj⟩
  obtain ⟨j, y, a, b, c, d⟩ := h.par p h1 h2
  exact ⟨j, y, a, by omega, c, d⟩

theorem rch_inv {m : Mc} (R : Right m) : ∀ (f i x : Nat) (S : List Int) (V : List (List Int)), RInv m i x S V → need m i x ≤ f → RInv m (rch m f i x S V).1.length 0 (rch m f i x S V).1 (rch m f i x S V).2
  | 0, i, x, S, V, h, hf => by
    have hs := h.size R
    have hi : ¬ i < S.length := fun hi => by
      by_cases hx : (x : Int) < m.k
      · obtain ⟨g, e, _⟩ := need_sym (by omega) hx hf
        omega
      · have := h.xl
        obtain ⟨g, e, _⟩ := need_row (by omega) (by omega) hf
        omega
    rw [rch_end hi]
    have hil := h.il
    have e : i = S.length := by omega
    subst e
    exact h.last R
  | f + 1, i, x, S, V, h, hf => by
    have hs := h.size R
    by_cases hi : i < S.length
    · by_cases hx : (x : Int) < m.k
      · obtain ⟨g, e, hg⟩ := need_sym (by omega) hx hf
        obtain rfl : g = f := by omega
        by_cases ht : nxt m (S.getD i 0) x ∈ S
        · rw [rch_old hi hx ht]
          exact rch_inv R _ _ _ _ _ (h.old hi hx ht) hg
        · rw [rch_new hi hx ht]
          exact rch_inv R _ _ _ _ _ (h.new R hi hx ht) hg
      · have := h.xl
        obtain ⟨g, e, hg⟩ := need_row (by omega) (by omega) hf
        obtain rfl : g = f := by omega
        rw [rch_row hi hx]
        exact rch_inv R _ _ _ _ _ (h.row hi hx R.k0) hg
    · rw [rch_end hi]
      have hil := h.il
      have e : i = S.length := by omega
      subst e
      exact h.last R

/-- What holds of all that can be come to. -/
theorem rchV_inv {m : Mc} (R : Right m) : RInv m (rchV m).1.length 0 (rchV m).1 (rchV m).2 := rch_inv R _ _ _ _ _ (RInv.start R) (Nat.le_refl _)

/-- Each word leads to a state that is there, and the state's word is not behind it. -/
theorem reach_all {m : Mc} {S : List Int} {V : List (List Int)} (h : RInv m S.length 0 S V) : ∀ (r : List Int), (∀ y ∈ r, 0 ≤ y ∧ y < m.k) → ∃ p, p < S.length ∧ S.getD p 0 = ends m 0 r.reverse ∧ (V.getD p [] = r.reverse ∨ Ahd (V.getD p []) r.reverse)
  | [], _ => ⟨0, h.ne, by rw [h.s0]; rfl, .inl h.v0⟩
  | x :: r, hr => by
    obtain ⟨p, hp, e, hc⟩ := reach_all h r fun y hy => hr y (by simp [hy])
    have hx := hr x (by simp)
    obtain ⟨y, rfl⟩ := Int.eq_ofNat_of_zero_le hx.1
    obtain ⟨p', hp', e', hc'⟩ := h.cov p y (.inl ⟨hp, hx.2⟩) hp
    refine ⟨p', hp', ?_, ?_⟩
    · rw [List.reverse_cons, ends_snoc, ← e, e']
    · rw [List.reverse_cons]
      rcases hc with hc | hc
      · rw [← hc]; exact hc'
      · have h1 : Ahd (V.getD p [] ++ [(y : Int)]) (r.reverse ++ [(y : Int)]) := hc.snoc _ _
        rcases hc' with hc' | hc'
        · rw [hc']; exact .inr h1
        · exact .inr (hc'.trans h1)
theorem reach_word {m : Mc} {S : List Int} {V : List (List Int)} (h : RInv m S.length 0 S V) {w : List Int} (hw : ∀ y ∈ w, 0 ≤ y ∧ y < m.k) : ∃ p, p < S.length ∧ S.getD p 0 = ends m 0 w ∧ (V.getD p [] = w ∨ Ahd (V.getD p []) w) := by
  have := reach_all h w.reverse fun y hy => hw y (by simpa using hy)
  rwa [List.reverse_reverse] at this
/-- No word ahead of a state's own leads to it. -/
theorem reach_least {m : Mc} {S : List Int} {V : List (List Int)} (h : RInv m S.length 0 S V) {w : List Int} (hw : ∀ y ∈ w, 0 ≤ y ∧ y < m.k) {p : Nat} (hp : p < S.length) (e : S.getD p 0 = ends m 0 w) : ¬ Ahd w (V.getD p []) := by
  obtain ⟨p', hp', e', hc⟩ := reach_word h hw
  obtain rfl : p = p' := nd_inj h.nd hp hp' (by rw [e, e'])
  intro ha
  rcases hc with hc | hc
  · rw [hc] at ha; exact Ahd.irrefl _ ha
  · exact Ahd.irrefl _ (ha.trans hc)

end Go.Proofs.Ytdlcbjbcehpooaa
