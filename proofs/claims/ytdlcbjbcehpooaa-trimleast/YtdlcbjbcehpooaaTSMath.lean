/-
  The ways by which states are come to, beside the words; a search that has found all states finds no more.
-/
import Derived.Test.YtdlcbjbcehpooaaTReach
namespace Go.Proofs.Ytdlcbjbcehpooaa
open Go.RowKit

/-- W: the ways by which all states but the first were come to. -/
def Wy (m : Mc) (S : List Int) (V : List (List Int)) (W : List Int) : Prop :=
  W.length + 1 = V.length ∧ ∀ t, t < W.length → ∃ j y : Nat, j ≤ t ∧ (y : Int) < m.k ∧ W.getD t 0 = S.getD j 0 * m.k + y ∧ V.getD (t + 1) [] = V.getD j [] ++ [(y : Int)]
theorem Wy.start (m : Mc) : Wy m [0] [[]] [] := ⟨rfl, fun t h => by simp at h⟩
theorem Wy.new {m : Mc} {S : List Int} {V : List (List Int)} {W : List Int} {i x : Nat} (h : Wy m S V W) (hl : S.length = V.length) (hi : i < S.length) (hx : (x : Int) < m.k) (t : Int) :
    Wy m (S ++ [t]) (V ++ [V.getD i [] ++ [(x : Int)]]) (W ++ [S.getD i 0 * m.k + x]) := by
  obtain ⟨h1, h2⟩ := h
  refine ⟨by simp; omega, fun q hq => ?_⟩
  rw [List.length_append, List.length_singleton] at hq
  by_cases e : q = W.length
  · subst e
    refine ⟨i, x, by omega, hx, ?_, ?_⟩
    · rw [gd_mid, gd_left 0 hi]
    · rw [h1, gd_mid, gd_left [] (by omega)]
  · obtain ⟨j, y, a, b, c, d⟩ := h2 q (by omega)
    refine ⟨j, y, a, b, ?_, ?_⟩
    · rw [gd_left 0 (by omega), gd_left 0 (by omega)]; exact c
    · rw [gd_left [] (by omega), gd_left [] (by omega)]; exact d

theorem all_mem {n : Int} {S : List Int} (hd : S.Nodup) (hr : ∀ p, p < S.length → 0 ≤ S.getD p 0 ∧ S.getD p 0 < n) (hl : (S.length : Int) = n) {t : Int} (t0 : 0 ≤ t) (t1 : t < n) : t ∈ S := by
  apply Decidable.byContradiction
  intro hn
  have h1 := nodup_le n.toNat (t :: S) (by rw [List.nodup_cons]; exact ⟨hn, hd⟩) fun a ha => by
    rw [List.mem_cons] at ha
    rcases ha with rfl | ha
    · omega
    · obtain ⟨p, hp, rfl⟩ := mem_gd ha
      have := hr p hp
      omega
  rw [List.length_cons] at h1
  omega
theorem rch_full {m : Mc} (R : Right m) {S : List Int} {V : List (List Int)} (hd : S.Nodup) (hr : ∀ p, p < S.length → 0 ≤ S.getD p 0 ∧ S.getD p 0 < m.n) (hl : (S.length : Int) = m.n) : ∀ (f i x : Nat), rch m f i x S V = (S, V)
  | 0, i, x => rfl
  | f + 1, i, x => by
    by_cases hi : i < S.length
    · by_cases hx : (x : Int) < m.k
      · have h1 := hr i hi
        have h2 := nxt_range R h1.1 h1.2 hx
        rw [rch_old hi hx (all_mem hd hr hl h2.1 h2.2)]
        exact rch_full R hd hr hl f i (x + 1)
      · rw [rch_row hi hx]; exact rch_full R hd hr hl f (i + 1) 0
    · exact rch_end hi

/-- There is fuel left that is enough, and the end is the whole's. -/
def Fuel (m : Mc) (i x : Nat) (S : List Int) (V : List (List Int)) : Prop := ∃ f, need m i x ≤ f ∧ rch m f i x S V = rchV m
theorem Fuel.start (m : Mc) : Fuel m 0 0 [0] [[]] := ⟨_, Nat.le_refl _, rfl⟩
theorem Fuel.old {m : Mc} {i x : Nat} {S : List Int} {V : List (List Int)} (h : Fuel m i x S V) (hn : S.length ≤ m.n.toNat) (hi : i < S.length) (hx : (x : Int) < m.k) (ht : nxt m (S.getD i 0) x ∈ S) : Fuel m i (x + 1) S V := by
  obtain ⟨f, h1, h2⟩ := h
  obtain ⟨g, rfl, hg⟩ := need_sym (by omega) hx h1
  exact ⟨g, hg, by rw [← h2, rch_old hi hx ht]⟩
theorem Fuel.new {m : Mc} {i x : Nat} {S : List Int} {V : List (List Int)} (h : Fuel m i x S V) (hn : S.length ≤ m.n.toNat) (hi : i < S.length) (hx : (x : Int) < m.k) (ht : ¬ nxt m (S.getD i 0) x ∈ S) : Fuel m i (x + 1) (S ++ [nxt m (S.getD i 0) x]) (V ++ [V.getD i [] ++ [(x : Int)]]) := by
  obtain ⟨f, h1, h2⟩ := h
  obtain ⟨g, rfl, hg⟩ := need_sym (by omega) hx h1
  exact ⟨g, hg, by rw [← h2, rch_new hi hx ht]⟩
theorem Fuel.row {m : Mc} {i x : Nat} {S : List Int} {V : List (List Int)} (h : Fuel m i x S V) (hn : S.length ≤ m.n.toNat) (hi : i < S.length) (hx : (x : Int) = m.k) : Fuel m (i + 1) 0 S V := by
  obtain ⟨f, h1, h2⟩ := h
  obtain ⟨g, rfl, hg⟩ := need_row (by omega) hx h1
  exact ⟨g, hg, by rw [← h2, rch_row hi (by omega)]⟩
theorem Fuel.fin {m : Mc} {i x : Nat} {S : List Int} {V : List (List Int)} (h : Fuel m i x S V) (hi : ¬ i < S.length) : rchV m = (S, V) := by
  obtain ⟨f, h1, h2⟩ := h
  rw [← h2, rch_end hi]
theorem Fuel.full {m : Mc} (R : Right m) {i x : Nat} {S : List Int} {V : List (List Int)} (h : Fuel m i x S V) (r : RInv m i x S V) (hl : (S.length : Int) = m.n) : rchV m = (S, V) := by
  obtain ⟨f, h1, h2⟩ := h
  rw [← h2, rch_full R r.nd r.rng hl]

end Go.Proofs.Ytdlcbjbcehpooaa
