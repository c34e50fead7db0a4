/-
  Numbers in one row, classes as spans in it: what is moved to the front, what is cut off: in plain words.
-/
import Derived.Test.YtnakadlhafggkaaUPart
import Derived.Test.YtnakadlhafggkaaK2
namespace Go.Proofs.Ytnakadlhafggkaa
open Go.RowKit

/-- A list by a function. -/
def tab (n : Nat) (f : Nat → Nat) : List Int := (List.range n).map fun i => ((f i : Nat) : Int)
theorem tab_len (n : Nat) (f : Nat → Nat) : (tab n f).length = n := by simp [tab]
theorem tab_at {n i : Nat} (f : Nat → Nat) (h : i < n) : (tab n f).getD i 0 = ((f i : Nat) : Int) := by simp [tab, List.getD, h]
theorem tab_congr {n : Nat} {f g : Nat → Nat} (h : ∀ i, i < n → f i = g i) : tab n f = tab n g := by
  unfold tab; apply List.map_congr_left; intro i hi; rw [h i (List.mem_range.1 hi)]
/-- One value turned. -/
def upd (f : Nat → Nat) (j x i : Nat) : Nat := if i = j then x else f i
theorem upd_same (f : Nat → Nat) (j x : Nat) : upd f j x j = x := if_pos rfl
theorem upd_ne {f : Nat → Nat} {j x i : Nat} (h : i ≠ j) : upd f j x i = f i := if_neg h
theorem tab_set {n j : Nat} (f : Nat → Nat) (x : Nat) : (tab n f).set j ((x : Nat) : Int) = tab n (upd f j x) := by
  refine List.ext_getElem? fun i => ?_
  rw [List.getElem?_set]
  by_cases hi : i < n
  · by_cases e : j = i
    · subst e; simp [tab, hi, upd]
    · rw [if_neg e]; simp [tab, hi, upd, Ne.symm e]
  · have e1 : (tab n f)[i]? = none := List.getElem?_eq_none (by rw [tab_len]; omega)
    have e2 : (tab n (upd f j x))[i]? = none := List.getElem?_eq_none (by rw [tab_len]; omega)
    rw [e1, e2, tab_len]
    by_cases e : j = i
    · subst e; rw [if_pos rfl, if_neg hi]
    · rw [if_neg e]
theorem tab_ext {n : Nat} {L : List Int} {f : Nat → Nat} (hl : L.length = n) (h : ∀ i, i < n → L.getD i 0 = ((f i : Nat) : Int)) : L = tab n f := by
  refine List.ext_getElem? fun i => ?_
  by_cases hi : i < n
  · have h1 := h i hi
    rw [← tab_at f hi] at h1
    simp only [List.getD] at h1
    rw [List.getElem?_eq_getElem (by omega), List.getElem?_eq_getElem (by rw [tab_len]; omega)] at h1 ⊢
    simpa using h1
  · rw [List.getElem?_eq_none (by omega), List.getElem?_eq_none (by rw [tab_len]; omega)]

/-- How many classes; what stands at a place, where a number stands, its class; where a class begins and ends. -/
structure St where
  K : Nat
  r : Nat → Nat
  p : Nat → Nat
  c : Nat → Nat
  b : Nat → Nat
  e : Nat → Nat
structure PI (n : Nat) (s : St) : Prop where
  rr : ∀ i, i < n → s.r i < n ∧ s.p (s.r i) = i
  pq : ∀ x, x < n → s.p x < n ∧ s.r (s.p x) = x
  cc : ∀ x, x < n → s.c x < s.K
  sp : ∀ k, k < s.K → s.b k < s.e k ∧ s.e k ≤ n
  inn : ∀ x, x < n → s.b (s.c x) ≤ s.p x ∧ s.p x < s.e (s.c x)
  off : ∀ k, k < s.K → ∀ i, s.b k ≤ i → i < s.e k → s.c (s.r i) = k

def St.start (n : Nat) : St := ⟨1, fun i => i, fun i => i, fun _ => 0, fun _ => 0, fun _ => n⟩
theorem PI.start {n : Nat} (h : 1 ≤ n) : PI n (St.start n) := by
  refine ⟨fun i hi => ⟨hi, rfl⟩, fun x hx => ⟨hx, rfl⟩, fun _ _ => Nat.zero_lt_one, fun _ _ => ⟨h, Nat.le_refl _⟩, fun x hx => ⟨Nat.zero_le _, hx⟩, fun k hk i _ _ => ?_⟩
  have h1 : k < 1 := hk
  show 0 = k
  omega
theorem PI.Kn {n : Nat} {s : St} (h : PI n s) : s.K ≤ n := by
  have h1 := nodup_le n ((List.range s.K).map fun k => ((s.r (s.b k) : Nat) : Int)) ?_ ?_
  · simpa using h1
  · refine List.pairwise_map.2 (List.Pairwise.imp_of_mem ?_ (List.nodup_range (n := s.K)))
    intro k l hk hl hne e
    have hk := List.mem_range.1 hk
    have hl := List.mem_range.1 hl
    obtain ⟨k1, k2⟩ := h.sp k hk
    obtain ⟨l1, l2⟩ := h.sp l hl
    have e1 := h.off k hk (s.b k) (Nat.le_refl _) k1
    have e2 := h.off l hl (s.b l) (Nat.le_refl _) l1
    have e3 : s.r (s.b k) = s.r (s.b l) := by omega
    rw [e3, e2] at e1
    exact hne e1.symm
  · intro a ha
    obtain ⟨k, hk, rfl⟩ := List.mem_map.1 ha
    obtain ⟨k1, k2⟩ := h.sp k (List.mem_range.1 hk)
    have := (h.rr (s.b k) (by omega)).1
    omega
theorem PI.part {n : Nat} {s : St} (h : PI n s) : PartI (tab n s.c) s.K := by
  refine ⟨fun i hi => ?_, fun c hc => ?_⟩
  · rw [tab_len] at hi
    rw [tab_at _ hi]
    have := h.cc i hi
    omega
  · obtain ⟨k1, k2⟩ := h.sp c hc
    have h1 := (h.rr (s.b c) (by omega)).1
    exact ⟨s.r (s.b c), by rw [tab_len]; exact h1, by rw [tab_at _ h1, h.off c hc (s.b c) (Nat.le_refl _) k1]⟩

/-- Two places change what stands there. -/
def St.swap (s : St) (i j : Nat) : St := { s with r := upd (upd s.r i (s.r j)) j (s.r i), p := upd (upd s.p (s.r j) i) (s.r i) j }
theorem PI.swap {n : Nat} {s : St} (h : PI n s) {k i j : Nat} (hk : k < s.K) (i0 : s.b k ≤ i) (i1 : i < s.e k) (j0 : s.b k ≤ j) (j1 : j < s.e k) : PI n (s.swap i j) := by
  obtain ⟨k1, k2⟩ := h.sp k hk
  have ri := h.rr i (by omega)
  have rj := h.rr j (by omega)
  have ci := h.off k hk i i0 i1
  have cj := h.off k hk j j0 j1
  have inj : ∀ a b, a < n → b < n → s.r a = s.r b → a = b := fun a b ha hb e => by
    have h1 := (h.rr a ha).2
    have h2 := (h.rr b hb).2
    rw [e] at h1; omega
  refine ⟨fun a ha => ?_, fun x hx => ?_, h.cc, h.sp, fun x hx => ?_, fun l hl a a0 a1 => ?_⟩
  · have ra := h.rr a ha
    show upd (upd s.r i (s.r j)) j (s.r i) a < n ∧ upd (upd s.p (s.r j) i) (s.r i) j (upd (upd s.r i (s.r j)) j (s.r i) a) = a
    by_cases e : a = j
    · subst e; rw [upd_same, upd_same]; exact ⟨ri.1, rfl⟩
    · rw [upd_ne (j := j) e]
      by_cases f : a = i
      · subst f
        rw [upd_same]
        refine ⟨rj.1, ?_⟩
        rw [upd_ne (fun g => e (inj _ _ ha (by omega) g.symm)), upd_same]
      · rw [upd_ne f]
        refine ⟨ra.1, ?_⟩
        rw [upd_ne (fun g => f (inj _ _ ha (by omega) g)), upd_ne (fun g => e (inj _ _ ha (by omega) g))]
        exact ra.2
  · have px := h.pq x hx
    show upd (upd s.p (s.r j) i) (s.r i) j x < n ∧ upd (upd s.r i (s.r j)) j (s.r i) (upd (upd s.p (s.r j) i) (s.r i) j x) = x
    by_cases e : x = s.r i
    · subst e; rw [upd_same, upd_same]; exact ⟨by omega, rfl⟩
    · rw [upd_ne (j := s.r i) e]
      by_cases f : x = s.r j
      · subst f
        rw [upd_same]
        refine ⟨by omega, ?_⟩
        rw [upd_ne (fun g => e (by rw [g])), upd_same]
      · rw [upd_ne f]
        refine ⟨px.1, ?_⟩
        rw [upd_ne (fun g => f (by rw [← g]; exact px.2.symm)), upd_ne (fun g => e (by rw [← g]; exact px.2.symm))]
        exact px.2
  · show s.b (s.c x) ≤ upd (upd s.p (s.r j) i) (s.r i) j x ∧ upd (upd s.p (s.r j) i) (s.r i) j x < s.e (s.c x)
    by_cases e : x = s.r i
    · subst e; rw [upd_same, ci]; exact ⟨j0, j1⟩
    · rw [upd_ne (j := s.r i) e]
      by_cases f : x = s.r j
      · subst f; rw [upd_same, cj]; exact ⟨i0, i1⟩
      · rw [upd_ne f]; exact h.inn x hx
  · show s.c (upd (upd s.r i (s.r j)) j (s.r i) a) = l
    have hal := h.off l hl a a0 a1
    by_cases e : a = j
    · subst e; rw [upd_same, ci]; exact cj.symm.trans hal
    · rw [upd_ne (j := j) e]
      by_cases f : a = i
      · subst f; rw [upd_same, cj]; exact ci.symm.trans hal
      · rw [upd_ne f]; exact hal

/-- Of class k the first N k are those in D. -/
structure Fr (n : Nat) (s : St) (N : Nat → Nat) (D : Nat → Prop) : Prop where
  le : ∀ k, k < s.K → s.b k + N k ≤ s.e k
  fr : ∀ x, x < n → (D x ↔ s.p x < s.b (s.c x) + N (s.c x))
  up : ∀ k, s.K ≤ k → N k = 0
theorem Fr.start {n : Nat} {s : St} (h : PI n s) : Fr n s (fun _ => 0) (fun _ => False) :=
  ⟨fun k hk => Nat.le_of_lt (h.sp k hk).1, fun x hx => ⟨False.elim, fun g => by have := (h.inn x hx).1; omega⟩, fun _ _ => rfl⟩
/-- One that stands in front. -/
theorem Fr.old {n : Nat} {s : St} {N : Nat → Nat} {D : Nat → Prop} (h : Fr n s N D) {x : Nat} (hp : s.p x < s.b (s.c x) + N (s.c x)) : Fr n s N (fun y => D y ∨ y = x) :=
  ⟨h.le, fun y hy => ⟨fun g => g.elim (h.fr y hy).1 (fun e => by rw [e]; exact hp), fun g => .inl ((h.fr y hy).2 g)⟩, h.up⟩
/-- One that is brought there. -/
theorem Fr.new {n : Nat} {s : St} {N : Nat → Nat} {D : Nat → Prop} (I : PI n s) (h : Fr n s N D) {x : Nat} (hx : x < n) (hp : s.b (s.c x) + N (s.c x) ≤ s.p x) :
    Fr n (s.swap (s.p x) (s.b (s.c x) + N (s.c x))) (upd N (s.c x) (N (s.c x) + 1)) (fun y => D y ∨ y = x) := by
  obtain ⟨x0, x1⟩ := I.inn x hx
  have hc := I.cc x hx
  obtain ⟨k1, k2⟩ := I.sp _ hc
  have px := I.pq x hx
  have rj := I.rr (s.b (s.c x) + N (s.c x)) (by omega)
  have cj := I.off _ hc (s.b (s.c x) + N (s.c x)) (by omega) (by omega)
  refine ⟨fun k hk => ?_, fun y hy => ?_, fun k hk => ?_⟩
  · show s.b k + upd N (s.c x) (N (s.c x) + 1) k ≤ s.e k
    by_cases e : k = s.c x
    · subst e; rw [upd_same]; omega
    · rw [upd_ne e]; exact h.le k hk
  · show _ ↔ upd (upd s.p (s.r (s.b (s.c x) + N (s.c x))) (s.p x)) (s.r (s.p x)) (s.b (s.c x) + N (s.c x)) y < s.b (s.c y) + upd N (s.c x) (N (s.c x) + 1) (s.c y)
    rw [px.2]
    by_cases e : y = x
    · subst e
      rw [upd_same, upd_same]
      exact ⟨fun _ => by omega, fun _ => .inr rfl⟩
    · rw [upd_ne (j := x) e]
      have hd : (D y ∨ y = x) ↔ D y := ⟨fun g => g.elim id (fun g => absurd g e), .inl⟩
      rw [hd, h.fr y hy]
      by_cases f : y = s.r (s.b (s.c x) + N (s.c x))
      · subst f
        rw [upd_same, cj, upd_same, rj.2]
        constructor
        · intro g; omega
        · intro g
          have e2 : s.p x = s.b (s.c x) + N (s.c x) := by omega
          exact absurd (by rw [← e2]; exact px.2) e
      · rw [upd_ne f]
        by_cases g : s.c y = s.c x
        · rw [g, upd_same]
          have : s.p y ≠ s.b (s.c x) + N (s.c x) := fun e3 => f (by rw [← e3]; exact (I.pq y hy).2.symm)
          omega
        · rw [upd_ne g]
  · show upd N (s.c x) (N (s.c x) + 1) k = 0
    have hk' : s.K ≤ k := hk
    rw [upd_ne (by omega)]; exact h.up k hk'

/-- The first m of class k become a class of their own. -/
def St.cut (s : St) (k m : Nat) : St := { s with K := s.K + 1, c := fun x => if s.c x = k ∧ s.p x < s.b k + m then s.K else s.c x, b := upd (upd s.b s.K (s.b k)) k (s.b k + m), e := upd s.e s.K (s.b k + m) }
theorem PI.cut {n : Nat} {s : St} (h : PI n s) {k m : Nat} (hk : k < s.K) (m0 : 0 < m) (m1 : s.b k + m < s.e k) : PI n (s.cut k m) := by
  obtain ⟨k1, k2⟩ := h.sp k hk
  refine ⟨h.rr, h.pq, fun x hx => ?_, fun l hl => ?_, fun x hx => ?_, fun l hl i i0 i1 => ?_⟩
  · show (if s.c x = k ∧ s.p x < s.b k + m then s.K else s.c x) < s.K + 1
    have := h.cc x hx
    split <;> omega
  · have hl : l < s.K + 1 := hl
    show upd (upd s.b s.K (s.b k)) k (s.b k + m) l < upd s.e s.K (s.b k + m) l ∧ upd s.e s.K (s.b k + m) l ≤ n
    by_cases e : l = k
    · subst e; rw [upd_same, upd_ne (by omega)]; exact ⟨m1, k2⟩
    · rw [upd_ne (j := k) e]
      by_cases f : l = s.K
      · subst f; rw [upd_same, upd_same]; omega
      · rw [upd_ne f, upd_ne f]; exact h.sp l (by omega)
  · show upd (upd s.b s.K (s.b k)) k (s.b k + m) (if s.c x = k ∧ s.p x < s.b k + m then s.K else s.c x) ≤ s.p x ∧ s.p x < upd s.e s.K (s.b k + m) (if s.c x = k ∧ s.p x < s.b k + m then s.K else s.c x)
    have hx1 := h.inn x hx
    have hx2 := h.cc x hx
    by_cases e : s.c x = k ∧ s.p x < s.b k + m
    · rw [if_pos e, upd_ne (by omega), upd_same, upd_same]
      rw [e.1] at hx1
      exact ⟨hx1.1, e.2⟩
    · rw [if_neg e, upd_ne (f := s.e) (by omega)]
      by_cases f : s.c x = k
      · rw [f, upd_same]
        rw [f] at hx1
        exact ⟨by have : ¬ s.p x < s.b k + m := fun g => e ⟨f, g⟩
                  omega, hx1.2⟩
      · rw [upd_ne f, upd_ne (by omega)]; exact hx1
  · have hl : l < s.K + 1 := hl
    have i0 : upd (upd s.b s.K (s.b k)) k (s.b k + m) l ≤ i := i0
    have i1 : i < upd s.e s.K (s.b k + m) l := i1
    show (if s.c (s.r i) = k ∧ s.p (s.r i) < s.b k + m then s.K else s.c (s.r i)) = l
    by_cases e : l = k
    · subst e
      rw [upd_same] at i0
      rw [upd_ne (by omega)] at i1
      have := h.rr i (by omega)
      rw [this.2, if_neg (by omega)]
      exact h.off l hk i (by omega) i1
    · rw [upd_ne (j := k) e] at i0
      by_cases f : l = s.K
      · subst f
        rw [upd_same] at i0 i1
        have := h.rr i (by omega)
        rw [this.2, h.off k hk i i0 (by omega), if_pos ⟨rfl, i1⟩]
      · rw [upd_ne f] at i0 i1
        have hc := h.off l (by omega) i i0 i1
        rw [hc, if_neg (fun g => e g.1)]

/-- A class has both, by what stands in front. -/
theorem Fr.mix {n : Nat} {s : St} {N : Nat → Nat} {l : List Int} (I : PI n s) (h : Fr n s N (fun x => (x : Int) ∈ l)) {k : Nat} (hk : k < s.K) : mixB (tab n s.c) l (k : Int) = true ↔ 0 < N k ∧ s.b k + N k < s.e k := by
  obtain ⟨k1, k2⟩ := I.sp k hk
  have hin : ∀ x, inB l x = true ↔ (x : Int) ∈ l := fun x => by unfold inB; exact decide_eq_true_iff
  have hout : ∀ x, inB l x = false ↔ ¬ (x : Int) ∈ l := fun x => by unfold inB; exact decide_eq_false_iff_not
  rw [mix_iff]
  constructor
  · rintro ⟨⟨x, hx, ex, gx⟩, ⟨y, hy, ey, gy⟩⟩
    rw [tab_len] at hx hy
    rw [tab_at _ hx] at ex
    rw [tab_at _ hy] at ey
    have ex : s.c x = k := by omega
    have ey : s.c y = k := by omega
    have h1 := (h.fr x hx).1 ((hin x).1 gx)
    have h2 := I.inn x hx
    have h3 : ¬ s.p y < s.b (s.c y) + N (s.c y) := fun g => (hout y).1 gy ((h.fr y hy).2 g)
    have h4 := I.inn y hy
    rw [ex] at h1 h2
    rw [ey] at h3 h4
    omega
  · rintro ⟨h1, h2⟩
    have a := I.rr (s.b k) (by omega)
    have b := I.rr (s.b k + N k) (by omega)
    have ca := I.off k hk (s.b k) (Nat.le_refl _) k1
    have cb := I.off k hk (s.b k + N k) (by omega) h2
    refine ⟨⟨s.r (s.b k), by rw [tab_len]; exact a.1, by rw [tab_at _ a.1, ca], (hin _).2 ((h.fr _ a.1).2 (by rw [a.2, ca]; omega))⟩, ⟨s.r (s.b k + N k), by rw [tab_len]; exact b.1, by rw [tab_at _ b.1, cb], (hout _).2 (fun g => ?_)⟩⟩
    have := (h.fr _ b.1).1 g
    rw [b.2, cb] at this
    omega

/-- The classes below k are split. -/
structure Cut (n : Nat) (s0 : St) (N : Nat → Nat) (l : List Int) (k : Nat) (s : St) : Prop where
  K : s.K = s0.K + mixN (tab n s0.c) l k
  r : s.r = s0.r
  p : s.p = s0.p
  c : ∀ x, x < n → ((s.c x : Nat) : Int) = spTo (tab n s0.c) l s0.K k x
  b : ∀ j, k ≤ j → j < s0.K → s.b j = s0.b j
  e : ∀ j, k ≤ j → j < s0.K → s.e j = s0.e j
  pi : PI n s
theorem Cut.start {n : Nat} {s : St} {N : Nat → Nat} {l : List Int} (I : PI n s) : Cut n s N l 0 s :=
  ⟨rfl, rfl, rfl, fun x hx => by rw [spTo_zero (by rw [tab_at _ hx]; omega), tab_at _ hx], fun _ _ _ => rfl, fun _ _ _ => rfl, I⟩
theorem Cut.no {n : Nat} {s0 s : St} {N : Nat → Nat} {l : List Int} {k : Nat} (h : Cut n s0 N l k s) (hm : mixB (tab n s0.c) l (k : Int) = false) : Cut n s0 N l (k + 1) s :=
  ⟨by rw [mixN_no hm]; exact h.K, h.r, h.p, fun x hx => by rw [spTo_no hm]; exact h.c x hx, fun j hj => h.b j (by omega), fun j hj => h.e j (by omega), h.pi⟩
theorem Cut.jump {n : Nat} {s0 s : St} {N : Nat → Nat} {l : List Int} {k : Nat} : ∀ {k' : Nat}, Cut n s0 N l k s → k ≤ k' → (∀ j, k ≤ j → j < k' → mixB (tab n s0.c) l (j : Int) = false) → Cut n s0 N l k' s
  | 0, h, hk, _ => by obtain rfl : k = 0 := by omega
                      exact h
  | k' + 1, h, hk, hm => by
    by_cases e : k = k' + 1
    · subst e; exact h
    · exact (Cut.jump h (by omega) fun j a b => hm j a (by omega)).no (hm k' (by omega) (by omega))
theorem Cut.yes {n : Nat} {s0 s : St} {N : Nat → Nat} {l : List Int} {k : Nat} (I : PI n s0) (f : Fr n s0 N (fun x => (x : Int) ∈ l)) (h : Cut n s0 N l k s) (hk : k < s0.K) (hm : mixB (tab n s0.c) l (k : Int) = true) : Cut n s0 N l (k + 1) (s.cut k (N k)) := by
  obtain ⟨m0, m1⟩ := (f.mix I hk).1 hm
  have eb := h.b k (Nat.le_refl _) hk
  have ee := h.e k (Nat.le_refl _) hk
  have hK := h.K
  refine ⟨by rw [mixN_yes hm]; show s.K + 1 = _; omega, h.r, h.p, fun x hx => ?_, fun j hj hj2 => ?_, fun j hj hj2 => ?_, h.pi.cut (by omega) m0 (by rw [eb, ee]; exact m1)⟩
  · rw [spTo_yes hm]
    show (((if s.c x = k ∧ s.p x < s.b k + N k then s.K else s.c x) : Nat) : Int) = _
    have hcx := h.c x hx
    have h0 := I.cc x hx
    -- s.c x = k just where s0.c x = k
    have hck : s.c x = k ↔ s0.c x = k := by
      constructor
      · intro e
        rw [e] at hcx
        unfold spTo at hcx
        rw [tab_at _ hx] at hcx
        split at hcx
        · omega
        · omega
      · intro e
        have : spTo (tab n s0.c) l s0.K k x = (k : Int) := by
          unfold spTo
          rw [tab_at _ hx, if_neg (by omega)]; omega
        omega
    rw [tab_at _ hx]
    have hin : inB l x = true ↔ (x : Int) ∈ l := by unfold inB; exact decide_eq_true_iff
    by_cases e : s0.c x = k
    · have hp : s.p x < s.b k + N k ↔ inB l x = true := by
        rw [hin, f.fr x hx, e, h.p, eb]
      by_cases g : inB l x = true
      · rw [if_pos ⟨hck.2 e, hp.2 g⟩, if_pos ⟨by omega, g⟩]; omega
      · rw [if_neg (fun q => g (hp.1 q.2)), if_neg (fun q => g q.2)]; exact hcx
    · rw [if_neg (fun q => e (hck.1 q.1)), if_neg (fun q => e (by omega))]; exact hcx
  · show upd (upd s.b s.K (s.b k)) k (s.b k + N k) j = s0.b j
    rw [upd_ne (by omega), upd_ne (by omega)]; exact h.b j (by omega) hj2
  · show upd s.e s.K (s.b k + N k) j = s0.e j
    rw [upd_ne (by omega)]; exact h.e j (by omega) hj2
theorem Cut.fin {n : Nat} {s0 s : St} {N : Nat → Nat} {l : List Int} (h : Cut n s0 N l s0.K s) : tab n s.c = spC (tab n s0.c) l s0.K s0.K := by
  refine (tab_ext (by rw [spC_len, tab_len]) fun i hi => ?_).symm
  rw [spC_at (by rw [tab_len]; exact hi), h.c i hi]

end Go.Proofs.Ytnakadlhafggkaa
