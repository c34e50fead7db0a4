/-
  Some texts of this seat, one behind the other.
-/
import Derived.Test.YtdnmabemollbeaaDoorK15
import Derived.Test.YtdnmabemollbeaaDoorK2
import Derived.Test.YtdnmabemollbeaaDoorK6
import Derived.Test.YtdnmabemollbeaaDoorK7
import Derived.Test.YtdnmabemollbeaaDoorK8
import Derived.Test.YtdnmabemollbeaaDoorK9
/-
  What the program's firstRows and saidIn return.
-/
namespace Go.Proofs.YtdnmabemollbeaaDoor
open Go.RowKit Go.Maps

/-- What the empty word sees. -/
def F0 (m : Mc) (s i : Nat) : Int := if m.kind = 1 ∧ i = 0 then m.out.getD s 0 else 0
/-- The rows of the first s states, the others empty. -/
def F0s (m : Mc) (t s i : Nat) : Int := if s < t then F0 m s i else 0
theorem F0s_zero (m : Mc) (s i : Nat) : F0s m 0 s i = 0 := by simp [F0s]
theorem F0s_next {m : Mc} (hk : m.kind = 1) (t : Nat) (s i : Nat) : setR t 0 (m.out.getD t 0) (F0s m t) s i = F0s m (t + 1) s i := by
  unfold setR F0s F0
  by_cases e : s = t
  · subst e
    by_cases c : i = 0
    · subst c; simp [hk]
    · simp [c]
  · have : (s < t) ↔ (s < t + 1) := by omega
    simp [e, this]

end Go.Proofs.YtdnmabemollbeaaDoor

/-
  What the program's rowsBy returns.
-/
namespace Go.Proofs.YtdnmabemollbeaaDoor
open Go.RowKit Go.Maps

/-- What s says, and the classes to which it leads. -/
def Fb (m : Mc) (C : List Int) (s i : Nat) : Int :=
  if i < 64 then (if i < pp m then (rowO m s (pp m)).getD i 0 else 0) else (if ((i - 64 : Nat) : Int) < m.k then C.getD (nxt m s ((i - 64 : Nat) : Int)).toNat 0 else 0)
/-- In the making: the first t rows, of the next one p and q numbers. -/
def FbP (m : Mc) (C : List Int) (t p q s i : Nat) : Int :=
  if s < t then Fb m C s i else if s = t then (if i < 64 then (if i < p then Fb m C t i else 0) else (if i - 64 < q then Fb m C t i else 0)) else 0
theorem FbP_zero (m : Mc) (C : List Int) (s i : Nat) : FbP m C 0 0 0 s i = 0 := by
  unfold FbP
  rw [if_neg (by omega)]
  split
  · split
    · rw [if_neg (by omega)]
    · rw [if_neg (by omega)]
  · rfl
theorem FbP_said {m : Mc} {C : List Int} {t p : Nat} (hp : p < pp m) (h64 : pp m ≤ 64) (s i : Nat) : setR t p ((rowO m t (pp m)).getD p 0) (FbP m C t p 0) s i = FbP m C t (p + 1) 0 s i := by
  unfold setR
  by_cases e : s = t ∧ i = p
  · obtain ⟨rfl, rfl⟩ := e
    rw [if_pos ⟨rfl, rfl⟩]
    unfold FbP Fb
    rw [if_neg (by omega), if_pos rfl, if_pos (by omega), if_pos (by omega), if_pos (by omega), if_pos hp]
  · rw [if_neg e]
    unfold FbP
    by_cases c : s < t
    · rw [if_pos c, if_pos c]
    · rw [if_neg c, if_neg c]
      by_cases d : s = t
      · subst d
        have hi : i ≠ p := fun h => e ⟨rfl, h⟩
        rw [if_pos rfl, if_pos rfl]
        by_cases f : i < 64
        · rw [if_pos f, if_pos f]
          by_cases g : i < p
          · rw [if_pos g, if_pos (by omega)]
          · rw [if_neg g, if_neg (by omega)]
        · rw [if_neg f, if_neg f]
      · rw [if_neg d, if_neg d]
theorem FbP_next {m : Mc} {C : List Int} {t p q : Nat} (hq : (q : Int) < m.k) (s i : Nat) : setR t (64 + q) (C.getD (nxt m t (q : Int)).toNat 0) (FbP m C t p q) s i = FbP m C t p (q + 1) s i := by
  unfold setR
  by_cases e : s = t ∧ i = 64 + q
  · obtain ⟨rfl, rfl⟩ := e
    have hd : 64 + q - 64 = q := by omega
    rw [if_pos ⟨rfl, rfl⟩]
    unfold FbP Fb
    rw [if_neg (by omega), if_pos rfl, if_neg (by omega), if_pos (by omega), if_neg (by omega), hd, if_pos hq]
  · rw [if_neg e]
    unfold FbP
    by_cases c : s < t
    · rw [if_pos c, if_pos c]
    · rw [if_neg c, if_neg c]
      by_cases d : s = t
      · subst d
        have hi : i ≠ 64 + q := fun h => e ⟨rfl, h⟩
        rw [if_pos rfl, if_pos rfl]
        by_cases f : i < 64
        · rw [if_pos f, if_pos f]
        · rw [if_neg f, if_neg f]
          by_cases g : i - 64 < q
          · rw [if_pos g, if_pos (by omega)]
          · rw [if_neg g, if_neg (by omega)]
      · rw [if_neg d, if_neg d]
theorem FbP_full {m : Mc} {C : List Int} {t : Nat} {q : Nat} (hq : (q : Int) = m.k) (s i : Nat) : FbP m C t (pp m) q s i = FbP m C (t + 1) 0 0 s i := by
  unfold FbP
  by_cases c : s < t
  · rw [if_pos c, if_pos (by omega)]
  · rw [if_neg c]
    by_cases d : s = t
    · subst d
      rw [if_pos rfl, if_pos (show s < s + 1 by omega)]
      by_cases f : i < 64
      · rw [if_pos f]
        by_cases g : i < pp m
        · rw [if_pos g]
        · rw [if_neg g]; unfold Fb; rw [if_pos f, if_neg g]
      · rw [if_neg f]
        by_cases g : i - 64 < q
        · rw [if_pos g]
        · rw [if_neg g]; unfold Fb; rw [if_neg f, if_neg (by omega)]
    · rw [if_neg d]
      by_cases e : s = t + 1
      · rw [if_neg (by omega), if_pos e]
        split
        · rw [if_neg (by omega)]
        · rw [if_neg (by omega)]
      · rw [if_neg (by omega), if_neg e]

end Go.Proofs.YtdnmabemollbeaaDoor

/-
  Rows that are the same, and states that are alike up to a length: in plain words.
-/
namespace Go.Proofs.YtdnmabemollbeaaDoor
open Go.RowKit

theorem eqR_first {m : Mc} (s t : Nat) : eqR (F0 m) s t = alkR m 0 s t := by
  apply Bool.eq_iff_iff.2
  rw [eqR_iff]
  unfold alkR alk
  by_cases hk : m.kind = 1
  · have hp : pp m = 1 := by unfold pp; rw [if_pos hk]
    rw [if_pos hk, now_iff, hp]
    have e : ∀ s : Nat, (rowO m (s : Int) 1).getD 0 0 = m.out.getD s 0 := fun s => by
      have h1 := rowO_get m (s : Int) (n := 1) (x := 0) (by omega)
      rw [hp, show ((s : Int) * ((1 : Nat) : Int) + ((0 : Nat) : Int)).toNat = s by omega] at h1
      exact h1
    constructor
    · intro h i hi
      obtain rfl : i = 0 := by omega
      have := h 0 (by omega)
      unfold F0 at this
      rw [if_pos ⟨hk, rfl⟩, if_pos ⟨hk, rfl⟩] at this
      rw [e, e, this]
    · intro h i _
      unfold F0
      by_cases c : i = 0
      · have := h 0 (by omega)
        rw [e, e] at this
        rw [if_pos ⟨hk, c⟩, if_pos ⟨hk, c⟩, this]
      · rw [if_neg (fun h => c h.2), if_neg (fun h => c h.2)]
  · rw [if_neg hk]
    refine ⟨fun _ => rfl, fun _ i _ => ?_⟩
    unfold F0
    rw [if_neg (fun h => hk h.1), if_neg (fun h => hk h.1)]
theorem eqR_next {m : Mc} (R : Right m) (n : Nat) {s t : Nat} (hs : s < m.n.toNat) (ht : t < m.n.toNat) : eqR (Fb m (aftL m n)) s t = alkR m (n + 1) s t := by
  apply Bool.eq_iff_iff.2
  rw [eqR_iff]
  unfold alkR
  have k1 := R.k1
  have hpp := (pp_le R).1
  rw [alk_rows R, now_iff]
  have hn : ∀ (s : Nat) (x : Nat), s < m.n.toNat → (x : Int) < m.k → Fb m (aftL m n) s (64 + x) = (aftL m n).getD (nxt m s (x : Int)).toNat 0 := fun s x _ hx => by
    unfold Fb
    rw [if_neg (by omega), show 64 + x - 64 = x by omega, if_pos hx]
  have hsay : ∀ (s : Nat) (i : Nat), i < pp m → Fb m (aftL m n) s i = (rowO m s (pp m)).getD i 0 := fun s i hi => by
    unfold Fb; rw [if_pos (by omega), if_pos hi]
  have hr : ∀ (s : Nat) (x : Nat), s < m.n.toNat → (x : Int) < m.k → 0 ≤ nxt m s (x : Int) ∧ nxt m s (x : Int) < m.n := fun s x hs hx => nxt_range R (by omega) (by omega) hx
  constructor
  · intro h
    refine ⟨fun i hi => by rw [← hsay s i hi, ← hsay t i hi]; exact h i (by omega), fun x hx => ?_⟩
    have h1 := h (64 + x) (by omega)
    rw [hn s x hs hx, hn t x ht hx] at h1
    have a := hr s x hs hx
    have b := hr t x ht hx
    exact (aft_iff n a.1 a.2 b.1 b.2).1 h1
  · rintro ⟨h1, h2⟩ i hi
    by_cases c : i < 64
    · by_cases d : i < pp m
      · rw [hsay s i d, hsay t i d, h1 i d]
      · unfold Fb; rw [if_pos c, if_neg d, if_pos c, if_neg d]
    · by_cases d : ((i - 64 : Nat) : Int) < m.k
      · have e : i = 64 + (i - 64) := by omega
        rw [e, hn s _ hs d, hn t _ ht d]
        have a := hr s _ hs d
        have b := hr t _ ht d
        exact (aft_iff n a.1 a.2 b.1 b.2).2 (h2 _ d)
      · unfold Fb; rw [if_neg c, if_neg d, if_neg c, if_neg d]
theorem cl_first (m : Mc) : clL (eqR (F0 m)) m.n.toNat = aftL m 0 := (cls_congr fun s t _ _ => eqR_first s t).2.1
theorem cl_next {m : Mc} (R : Right m) (n : Nat) : clL (eqR (Fb m (aftL m n))) m.n.toNat = aftL m (n + 1) := (cls_congr fun _ _ hs ht => eqR_next R n hs ht).2.1
theorem fit_first {m : Mc} (R : Right m) (o1 : m.o ≤ 64) {s : Nat} (hs : s < m.n.toNat) : FitR (F0 m s) := fun i hi => by
  unfold F0
  by_cases c : m.kind = 1 ∧ i = 0
  · rw [if_pos c]
    have := R.outD c.1
    have := R.so s (by omega)
    rw [if_pos (by omega)]; omega
  · rw [if_neg c]
    split <;> omega
theorem fit_next {m : Mc} (R : Right m) (o1 : m.o ≤ 64) (n : Nat) {s : Nat} (hs : s < m.n.toNat) : FitR (Fb m (aftL m n) s) := fun i hi => by
  unfold Fb
  by_cases c : i < 64
  · rw [if_pos c, if_pos c]
    by_cases d : i < pp m
    · rw [if_pos d]
      have := said_rng R hs d
      omega
    · rw [if_neg d]; omega
  · rw [if_neg c, if_neg c]
    by_cases d : ((i - 64 : Nat) : Int) < m.k
    · rw [if_pos d]
      have a := nxt_range R (s := (s : Int)) (by omega) (by omega) d
      have := aft_range R n (j := (nxt m s ((i - 64 : Nat) : Int)).toNat) (by rw [aft_len]; omega)
      omega
    · rw [if_neg d]; omega

end Go.Proofs.YtdnmabemollbeaaDoor
