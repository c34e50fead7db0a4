/-
  Some texts of this seat, one behind the other.
-/
import Derived.Test.YtlcablkhomnieaaK2
import Derived.Test.YtlcablkhomnieaaK7
/-
  Which states are alike up to a length, and which are alike, in plain words.
-/
namespace Go.Proofs.Ytlcablkhomnieaa
open Go.RowKit

/-- The same is said in s and t (kind 1), or by each symbol from them (kind 2). -/
def nowB (m : Mc) (s t : Int) : Bool := decide (rowO m s (pp m) = rowO m t (pp m))
/-- Alike up to n. -/
def alk (m : Mc) : Nat → Int → Int → Bool
  | 0, s, t => if m.kind = 1 then nowB m s t else true
  | n + 1, s, t => alk m n s t && (if m.kind = 2 then nowB m s t else true) && (List.range m.k.toNat).all fun x : Nat => alk m n (nxt m s x) (nxt m t x)
theorem alk_succ {m : Mc} {n : Nat} {s t : Int} : alk m (n + 1) s t = true ↔ alk m n s t = true ∧ (m.kind = 2 → nowB m s t = true) ∧ ∀ x : Nat, (x : Int) < m.k → alk m n (nxt m s x) (nxt m t x) = true := by
  show (alk m n s t && (if m.kind = 2 then nowB m s t else true) && (List.range m.k.toNat).all fun x : Nat => alk m n (nxt m s x) (nxt m t x)) = true ↔ _
  rw [Bool.and_eq_true, Bool.and_eq_true, List.all_eq_true]
  constructor
  · rintro ⟨⟨h1, h2⟩, h3⟩
    refine ⟨h1, fun hk => by rw [if_pos hk] at h2; exact h2, fun x hx => h3 x (List.mem_range.2 (by omega))⟩
  · rintro ⟨h1, h2, h3⟩
    refine ⟨⟨h1, ?_⟩, fun x hx => h3 x (by have := List.mem_range.1 hx; omega)⟩
    by_cases hk : m.kind = 2
    · rw [if_pos hk]; exact h2 hk
    · rw [if_neg hk]
theorem now_refl (m : Mc) (s : Int) : nowB m s s = true := decide_eq_true rfl
theorem now_symm {m : Mc} {s t : Int} (h : nowB m s t = true) : nowB m t s = true := decide_eq_true (of_decide_eq_true h).symm
theorem now_trans {m : Mc} {s t u : Int} (h : nowB m s t = true) (g : nowB m t u = true) : nowB m s u = true := decide_eq_true ((of_decide_eq_true h).trans (of_decide_eq_true g))
theorem alk_refl (m : Mc) : ∀ (n : Nat) (s : Int), alk m n s s = true
  | 0, s => by unfold alk; split; { exact now_refl m s }; rfl
  | n + 1, s => alk_succ.2 ⟨alk_refl m n s, fun _ => now_refl m s, fun x _ => alk_refl m n _⟩
theorem alk_symm {m : Mc} : ∀ (n : Nat) {s t : Int}, alk m n s t = true → alk m n t s = true
  | 0, s, t, h => by
    unfold alk at h ⊢
    split at h
    · rename_i hk; rw [if_pos hk]; exact now_symm h
    · rename_i hk; rw [if_neg hk]
  | n + 1, s, t, h => by
    obtain ⟨h1, h2, h3⟩ := alk_succ.1 h
    exact alk_succ.2 ⟨alk_symm n h1, fun hk => now_symm (h2 hk), fun x hx => alk_symm n (h3 x hx)⟩
theorem alk_trans {m : Mc} : ∀ (n : Nat) {s t u : Int}, alk m n s t = true → alk m n t u = true → alk m n s u = true
  | 0, s, t, u, h, g => by
    unfold alk at h g ⊢
    split at h
    · rename_i hk; rw [if_pos hk] at g ⊢; exact now_trans h g
    · rename_i hk; rw [if_neg hk]
  | n + 1, s, t, u, h, g => by
    obtain ⟨h1, h2, h3⟩ := alk_succ.1 h
    obtain ⟨g1, g2, g3⟩ := alk_succ.1 g
    exact alk_succ.2 ⟨alk_trans n h1 g1, fun hk => now_trans (h2 hk) (g2 hk), fun x hx => alk_trans n (h3 x hx) (g3 x hx)⟩
/-- The relation among the states' numbers. -/
def alkR (m : Mc) (n : Nat) (s t : Nat) : Bool := alk m n (s : Int) (t : Int)
theorem alk_eqv (m : Mc) (n N : Nat) : Eqv (alkR m n) N := ⟨fun s _ => alk_refl m n s, fun _ _ _ _ h => alk_symm n h, fun _ _ _ _ _ _ h g => alk_trans n h g⟩
theorem alk_less {m : Mc} {n : Nat} {s t : Int} (h : alk m (n + 1) s t = true) : alk m n s t = true := (alk_succ.1 h).1
theorem alk_mono {m : Mc} {s t : Int} {a b : Nat} (hab : a ≤ b) (h : alk m b s t = true) : alk m a s t = true := by
  induction b with
  | zero => have : a = 0 := by omega
            subst this; exact h
  | succ b ih =>
    by_cases e : a = b + 1
    · subst e; exact h
    · exact ih (by omega) (alk_less h)
/-- A round that splits nothing. -/
def Still (m : Mc) (n : Nat) : Prop := ∀ s t, 0 ≤ s → s < m.n → 0 ≤ t → t < m.n → alk m n s t = true → alk m (n + 1) s t = true
theorem Still.next {m : Mc} (R : Right m) {n : Nat} (h : Still m n) : Still m (n + 1) := fun s t s0 s1 t0 t1 e => by
  obtain ⟨h1, h2, h3⟩ := alk_succ.1 e
  exact alk_succ.2 ⟨e, h2, fun x hx => by
    have a := nxt_range R s0 s1 hx
    have b := nxt_range R t0 t1 hx
    exact h _ _ a.1 a.2 b.1 b.2 (h3 x hx)⟩
theorem Still.all {m : Mc} (R : Right m) {n : Nat} (h : Still m n) : ∀ (d : Nat), Still m (n + d)
  | 0 => h
  | d + 1 => (Still.all R h d).next R
theorem Still.up {m : Mc} (R : Right m) {n : Nat} (h : Still m n) {s t : Int} (s0 : 0 ≤ s) (s1 : s < m.n) (t0 : 0 ≤ t) (t1 : t < m.n) (e : alk m n s t = true) : ∀ (d : Nat), alk m (n + d) s t = true
  | 0 => e
  | d + 1 => Still.all R h d s t s0 s1 t0 t1 (Still.up R h s0 s1 t0 t1 e d)

/-- What is said of words that are not too long. -/
def Says2 (m : Mc) (s : Int) (o : Mc) (t : Int) (n : Nat) : Prop := ∀ w : List Int, w.length ≤ n → (∀ x ∈ w, 0 ≤ x ∧ x < m.k) → (goV m s w []).2 = (goV o t w []).2

end Go.Proofs.Ytlcablkhomnieaa

/-
  Rounds that split: each makes more classes, so there are fewer than states; in plain words.
-/
namespace Go.Proofs.Ytlcablkhomnieaa
open Go.RowKit

theorem first_none' {p : Nat → Bool} {n : Nat} (h : first p n = none) : ∀ j, j < n → p j = false := by
  rcases first_cases p n with ⟨_, hl⟩ | ⟨i, e, _⟩
  · exact hl
  · rw [h] at e; cases e
theorem nc_finer {R Q : Nat → Nat → Bool} : ∀ {N : Nat}, (∀ s t, s < N → t < N → R s t = true → Q s t = true) → nc Q N ≤ nc R N ∧ (nc Q N = nc R N → ∀ s, s < N → first (R s) s = none → first (Q s) s = none)
  | 0, _ => ⟨Nat.le_refl _, fun _ s hs => by omega⟩
  | N + 1, h => by
    obtain ⟨h1, h2⟩ := nc_finer (N := N) fun s t hs ht => h s t (by omega) (by omega)
    have hN : first (Q N) N = none → first (R N) N = none := fun e => first_none fun j hj => by
      cases c : R N j
      · rfl
      · have := h N j (by omega) (by omega) c
        rw [first_none' e j hj] at this; cases this
    show nc Q N + _ ≤ nc R N + _ ∧ (nc Q N + _ = nc R N + _ → _)
    by_cases c : first (Q N) N = none
    · rw [if_pos c, if_pos (hN c)]
      refine ⟨by omega, fun e s hs hr => ?_⟩
      by_cases d : s = N
      · subst d; exact c
      · exact h2 (by omega) s (by omega) hr
    · rw [if_neg c]
      by_cases d : first (R N) N = none
      · rw [if_pos d]; exact ⟨by omega, fun e => by omega⟩
      · rw [if_neg d]
        refine ⟨by omega, fun e s hs hr => ?_⟩
        by_cases d2 : s = N
        · subst d2; exact absurd hr d
        · exact h2 (by omega) s (by omega) hr
/-- As many classes: the same classes. -/
theorem nc_same {R Q : Nat → Nat → Bool} {N : Nat} (E : Eqv R N) (F : Eqv Q N) (h : ∀ s t, s < N → t < N → R s t = true → Q s t = true) (e : nc Q N = nc R N) {s t : Nat} (hs : s < N) (ht : t < N) (q : Q s t = true) : R s t = true := by
  have hr := (nc_finer h).2 e
  obtain ⟨a, a1, a2, a3, _, _⟩ := rep_of E hs
  obtain ⟨b, b1, b2, b3, _, _⟩ := rep_of E ht
  have qa := hr a (by omega) a3
  have qb := hr b (by omega) b3
  have qab : Q a b = true := F.trans a s b (by omega) hs (by omega) (F.symm s a hs (by omega) (h s a hs (by omega) a2)) (F.trans s t b hs ht (by omega) q (h t b ht (by omega) b2))
  have : a = b := by
    rcases Nat.lt_trichotomy a b with c | c | c
    · have h5 := first_none' qb a c
      rw [F.symm a b (by omega) (by omega) qab] at h5; cases h5
    · exact c
    · have h5 := first_none' qa b c
      rw [qab] at h5; cases h5
  subst this
  exact E.trans s a t hs (by omega) ht a2 (E.symm t a ht (by omega) b2)

def stillB (m : Mc) (n : Nat) : Bool := (List.range m.n.toNat).all fun s : Nat => (List.range m.n.toNat).all fun t : Nat => !(alk m n s t) || alk m (n + 1) s t
theorem still_iff {m : Mc} {n : Nat} : stillB m n = true ↔ Still m n := by
  unfold stillB
  simp only [List.all_eq_true, List.mem_range, Bool.or_eq_true, Bool.not_eq_true']
  constructor
  · intro h s t s0 s1 t0 t1 e
    obtain ⟨a, rfl⟩ := Int.eq_ofNat_of_zero_le s0
    obtain ⟨b, rfl⟩ := Int.eq_ofNat_of_zero_le t0
    rcases h a (by omega) b (by omega) with h1 | h1
    · rw [h1] at e; cases e
    · exact h1
  · intro h a ha b hb
    cases e : alk m n (a : Int) (b : Int)
    · exact .inl rfl
    · exact .inr (h a b (by omega) (by omega) (by omega) (by omega) e)
/-- How many classes there are after n rounds. -/
def ncA (m : Mc) (n : Nat) : Nat := nc (alkR m n) m.n.toNat
theorem ncA_pos {m : Mc} (n0 : 1 ≤ m.n) (n : Nat) : 1 ≤ ncA m n := by
  unfold ncA
  have h1 : nc (alkR m n) 1 = 1 := rfl
  have := nc_mono (alkR m n) (s := 1) (t := m.n.toNat) (by omega)
  omega
theorem ncA_up {m : Mc} {n : Nat} (h : ¬ Still m n) : ncA m n < ncA m (n + 1) := by
  have h1 := (nc_finer (R := alkR m (n + 1)) (Q := alkR m n) (N := m.n.toNat) fun s t _ _ e => alk_less e).1
  rcases Nat.lt_or_eq_of_le h1 with h2 | h2
  · exact h2
  · refine absurd ?_ h
    intro s t s0 s1 t0 t1 e
    obtain ⟨a, rfl⟩ := Int.eq_ofNat_of_zero_le s0
    obtain ⟨b, rfl⟩ := Int.eq_ofNat_of_zero_le t0
    exact nc_same (alk_eqv m (n + 1) m.n.toNat) (alk_eqv m n m.n.toNat) (fun s t _ _ e => alk_less e) h2 (by omega) (by omega) e
/-- The first round that splits nothing, from n on. -/
def rdF (m : Mc) : Nat → Nat → Nat
  | 0, n => n
  | f + 1, n => if stillB m n = true then n else rdF m f (n + 1)
def rdV (m : Mc) : Nat := rdF m m.n.toNat 0
theorem rdF_spec {m : Mc} (n0 : 1 ≤ m.n) : ∀ (f n : Nat), n + 1 ≤ ncA m n → m.n.toNat ≤ n + f → (∀ j, j < n → ¬ Still m j) → Still m (rdF m f n) ∧ (∀ j, j < rdF m f n → ¬ Still m j) ∧ rdF m f n + 1 ≤ m.n.toNat
  | 0, n, h1, h2, h3 => by
    have h4 : ncA m n ≤ m.n.toNat := nc_le _ _
    omega
  | f + 1, n, h1, h2, h3 => by
    unfold rdF
    have h4 : ncA m n ≤ m.n.toNat := nc_le _ _
    by_cases c : stillB m n = true
    · rw [if_pos c]; exact ⟨still_iff.1 c, h3, by omega⟩
    · rw [if_neg c]
      have c' : ¬ Still m n := fun h => c (still_iff.2 h)
      have h5 := ncA_up c'
      exact rdF_spec n0 f (n + 1) (by omega) (by omega) fun j hj => by
        by_cases e : j = n
        · subst e; exact c'
        · exact h3 j (by omega)
theorem rdV_spec {m : Mc} (n0 : 1 ≤ m.n) : Still m (rdV m) ∧ (∀ j, j < rdV m → ¬ Still m j) ∧ rdV m + 1 ≤ m.n.toNat :=
  rdF_spec n0 _ 0 (by have := ncA_pos n0 0; omega) (by omega) fun j hj => by omega
/-- From the first still round on nothing turns. -/
theorem alk_end {m : Mc} (R : Right m) {n : Nat} (hn : rdV m ≤ n) {s t : Int} (s0 : 0 ≤ s) (s1 : s < m.n) (t0 : 0 ≤ t) (t1 : t < m.n) : alk m n s t = alk m (rdV m) s t := by
  obtain ⟨h, _, _⟩ := rdV_spec R.n0
  cases e : alk m (rdV m) s t
  · cases c : alk m n s t
    · rfl
    · rw [alk_mono hn c] at e; cases e
  · obtain ⟨d, rfl⟩ : ∃ d, n = rdV m + d := ⟨n - rdV m, by omega⟩
    exact h.up R s0 s1 t0 t1 e d
/-- After, Classes: the classes' numbers. -/
def aftL (m : Mc) (n : Nat) : List Int := clL (alkR m n) m.n.toNat
theorem aft_end {m : Mc} (R : Right m) {n : Nat} (hn : rdV m ≤ n) : aftL m n = aftL m (rdV m) :=
  (cls_congr fun s t hs ht => alk_end R hn (by omega) (by omega) (by omega) (by omega)).2.1

end Go.Proofs.Ytlcablkhomnieaa

/-
  The machine of the classes, and the least machine, in plain words: it says what the machine says, no two of its states are alike.
-/
namespace Go.Proofs.Ytlcablkhomnieaa
open Go.RowKit

/-- f leads from the states T of m to states of m', steps and what is said along. -/
structure Hom (m m' : Mc) (T : List Int) (f : Int → Int) : Prop where
  kd : m'.kind = m.kind
  k : m'.k = m.k
  cl : ∀ s ∈ T, ∀ x : Nat, (x : Int) < m.k → nxt m s x ∈ T
  nx : ∀ s ∈ T, ∀ x : Nat, (x : Int) < m.k → nxt m' (f s) x = f (nxt m s x)
  so : ∀ s ∈ T, rowO m' (f s) (pp m') = rowO m s (pp m)
theorem rowO_at {m m' : Mc} {s s' : Int} (h : rowO m' s' (pp m') = rowO m s (pp m)) (hp : pp m' = pp m) {x : Nat} (hx : x < pp m) : m'.out.getD (s' * (pp m' : Int) + (x : Int)).toNat 0 = m.out.getD (s * (pp m : Int) + (x : Int)).toNat 0 := by
  have h1 := rowO_get m' s' (n := pp m') (x := x) (by omega)
  have h2 := rowO_get m s (n := pp m) hx
  rw [h] at h1
  rw [← h1, h2]
theorem Hom.pp {m m' : Mc} {T : List Int} {f : Int → Int} (H : Hom m m' T f) : pp m' = pp m := by unfold Go.Proofs.Ytlcablkhomnieaa.pp; rw [H.kd, H.k]
theorem goV_hom {m m' : Mc} {T : List Int} {f : Int → Int} (H : Hom m m' T f) (k0 : 1 ≤ m.k) : ∀ (w : List Int) (s : Int) (acc : List Int), s ∈ T → (∀ x ∈ w, 0 ≤ x ∧ x < m.k) → goV m' (f s) w acc = (f (goV m s w acc).1, (goV m s w acc).2)
  | [], s, acc, hs, _ => by
    by_cases hk : m.kind = 1
    · have hpp : Go.Proofs.Ytlcablkhomnieaa.pp m = 1 := by unfold Go.Proofs.Ytlcablkhomnieaa.pp; rw [if_pos hk]
      have h3 := rowO_at (H.so s hs) H.pp (x := 0) (by omega)
      rw [H.pp, hpp] at h3
      have e1 : (f s * ((1 : Nat) : Int) + ((0 : Nat) : Int)).toNat = (f s).toNat := by omega
      have e2 : (s * ((1 : Nat) : Int) + ((0 : Nat) : Int)).toNat = s.toNat := by omega
      rw [e1, e2] at h3
      rw [goV_nil1 (m := m) hk, goV_nil1 (m := m') (by rw [H.kd]; exact hk), h3]
    · rw [goV_nil2 (m := m) hk, goV_nil2 (m := m') (by rw [H.kd]; exact hk)]
  | x :: w, s, acc, hs, hw => by
    have hx := hw x (by simp)
    obtain ⟨y, rfl⟩ := Int.eq_ofNat_of_zero_le hx.1
    have hc := H.cl s hs y hx.2
    have hn := H.nx s hs y hx.2
    have hw' : ∀ z ∈ w, 0 ≤ z ∧ z < m.k := fun z hz => hw z (by simp [hz])
    have hn' : m'.nx.getD (f s * m'.k + (y : Int)).toNat 0 = f (nxt m s y) := hn
    simp only [goV]
    rw [hn', H.kd]
    by_cases hk : m.kind = 2
    · have hpp : Go.Proofs.Ytlcablkhomnieaa.pp m = m.k.toNat := by unfold Go.Proofs.Ytlcablkhomnieaa.pp; rw [if_neg (by omega)]
      have hkc : ((Go.Proofs.Ytlcablkhomnieaa.pp m : Nat) : Int) = m.k := by rw [hpp, Int.toNat_of_nonneg (by omega)]
      have h3 := rowO_at (H.so s hs) H.pp (x := y) (by omega)
      rw [H.pp, hkc] at h3
      rw [if_pos hk, if_pos hk, H.k, h3]
      exact goV_hom H k0 w (nxt m s y) _ hc hw'
    · rw [if_neg hk, if_neg hk]
      exact goV_hom H k0 w (nxt m s y) _ hc hw'
theorem now_hom {m m' : Mc} {T : List Int} {f : Int → Int} (H : Hom m m' T f) {s t : Int} (hs : s ∈ T) (ht : t ∈ T) : nowB m' (f s) (f t) = nowB m s t := by
  unfold nowB; rw [H.so s hs, H.so t ht]
theorem alk_hom {m m' : Mc} {T : List Int} {f : Int → Int} (H : Hom m m' T f) : ∀ (n : Nat) {s t : Int}, s ∈ T → t ∈ T → alk m' n (f s) (f t) = alk m n s t
  | 0, s, t, hs, ht => by unfold alk; rw [H.kd, now_hom H hs ht]
  | n + 1, s, t, hs, ht => by
    have e1 := alk_hom H n hs ht
    apply Bool.eq_iff_iff.2
    rw [alk_succ, alk_succ, e1, now_hom H hs ht, H.kd, H.k]
    refine and_congr_right fun _ => and_congr_right fun _ => forall_congr' fun x => imp_congr_right fun hx => ?_
    rw [H.nx s hs x hx, H.nx t ht x hx, alk_hom H n (H.cl s hs x hx) (H.cl t ht x hx)]

/-- All states. -/
def allS (m : Mc) : List Int := (List.range m.n.toNat).map fun i : Nat => (i : Int)
theorem mem_allS {m : Mc} {s : Int} : s ∈ allS m ↔ 0 ≤ s ∧ s < m.n := by
  unfold allS
  rw [List.mem_map]
  constructor
  · rintro ⟨i, hi, rfl⟩
    have := List.mem_range.1 hi
    omega
  · rintro ⟨h1, h2⟩
    exact ⟨s.toNat, List.mem_range.2 (by omega), by omega⟩

/-- s's class, of those that are alike. -/
def clM (m : Mc) (s : Int) : Int := cl (alkR m (rdV m)) s.toNat
/-- The machine of the classes. -/
def quoM (m : Mc) : Mc := pickV m (reps (alkR m (rdV m)) m.n.toNat) (clM m)
theorem alk_now {m : Mc} (R : Right m) {s t : Int} (s0 : 0 ≤ s) (s1 : s < m.n) (t0 : 0 ≤ t) (t1 : t < m.n) (h : alk m (rdV m) s t = true) : nowB m s t = true := by
  obtain ⟨hS, _, _⟩ := rdV_spec R.n0
  rcases R.kd with hk | hk
  · have h0 := alk_mono (Nat.zero_le (rdV m)) h
    unfold alk at h0
    rw [if_pos hk] at h0
    exact h0
  · exact (alk_succ.1 (hS s t s0 s1 t0 t1 h)).2.1 hk
theorem clM_iff {m : Mc} {s t : Int} (s0 : 0 ≤ s) (s1 : s < m.n) (t0 : 0 ≤ t) (t1 : t < m.n) : clM m s = clM m t ↔ alk m (rdV m) s t = true := by
  unfold clM
  rw [cl_iff (alk_eqv m (rdV m) m.n.toNat) (by omega) (by omega)]
  unfold alkR
  rw [Int.toNat_of_nonneg s0, Int.toNat_of_nonneg t0]
/-- s's class as a place in the row of the least ones. -/
theorem clM_rep {m : Mc} {s : Int} (s0 : 0 ≤ s) (s1 : s < m.n) : ∃ i r : Nat, clM m s = (i : Int) ∧ i < (reps (alkR m (rdV m)) m.n.toNat).length ∧ (reps (alkR m (rdV m)) m.n.toNat).getD i 0 = (r : Int) ∧ (r : Int) < m.n ∧ alk m (rdV m) s r = true := by
  obtain ⟨r, r1, r2, r3, r4, _⟩ := rep_of (alk_eqv m (rdV m) m.n.toNat) (s := s.toNat) (by omega)
  refine ⟨nc (alkR m (rdV m)) r, r, r4, ?_, reps_at (by omega) r3, by omega, ?_⟩
  · rw [reps_len]; exact nc_rep r3 (by omega)
  · unfold alkR at r2; rwa [Int.toNat_of_nonneg s0] at r2
theorem quo_hom {m : Mc} (R : Right m) : Hom m (quoM m) (allS m) (clM m) := by
  obtain ⟨hS, _, _⟩ := rdV_spec R.n0
  refine ⟨rfl, rfl, fun s hs x hx => ?_, fun s hs x hx => ?_, fun s hs => ?_⟩
  · have h := mem_allS.1 hs
    exact mem_allS.2 (nxt_range R h.1 h.2 hx)
  · have h := mem_allS.1 hs
    obtain ⟨i, r, e1, h2, h3, h4, h5⟩ := clM_rep h.1 h.2
    rw [e1]
    unfold quoM
    rw [nxt_pick R.k0 h2 hx, h3]
    have a := nxt_range R h.1 h.2 hx
    have b := nxt_range R (s := (r : Int)) (by omega) h4 hx
    rw [clM_iff b.1 b.2 a.1 a.2]
    exact alk_symm _ ((alk_succ.1 (hS s r h.1 h.2 (by omega) h4 h5)).2.2 x hx)
  · have h := mem_allS.1 hs
    obtain ⟨i, r, e1, h2, h3, h4, h5⟩ := clM_rep h.1 h.2
    rw [e1]
    unfold quoM
    rw [rowO_pick h2, h3]
    exact (of_decide_eq_true (alk_now R h.1 h.2 (by omega) h4 h5)).symm
theorem full_quo {m : Mc} (F : Full m) : Full (quoM m) := by
  have R := F.r
  have n0 := R.n0
  have n1 := R.n1
  have E := alk_eqv m (rdV m) m.n.toNat
  have hl : (reps (alkR m (rdV m)) m.n.toNat).length ≤ m.n.toNat := by rw [reps_len]; exact nc_le _ _
  have hp : 0 < (reps (alkR m (rdV m)) m.n.toNat).length := by rw [reps_len]; exact ncA_pos n0 (rdV m)
  refine full_pick F (by omega) hp (fun p hp => ?_) fun p hp y hy => ?_
  · obtain ⟨r, h1, _, h3, _⟩ := reps_mem hp
    rw [h3]; omega
  · obtain ⟨r, h1, _, h3, _⟩ := reps_mem hp
    rw [h3]
    have b := nxt_range R (s := (r : Int)) (by omega) (by omega) hy
    rw [reps_len]
    exact cl_range E (by omega)
theorem clM_zero {m : Mc} : clM m 0 = 0 := by
  unfold clM
  have : cl (alkR m (rdV m)) 0 = (nc (alkR m (rdV m)) 0 : Nat) := cl_none rfl
  exact this
/-- No two states of the machine of the classes are alike. -/
theorem quo_apart {m : Mc} (R : Right m) {i j : Int} (i0 : 0 ≤ i) (i1 : i < (quoM m).n) (j0 : 0 ≤ j) (j1 : j < (quoM m).n) (h : alk (quoM m) (rdV m) i j = true) : i = j := by
  have rp : ∀ i : Int, 0 ≤ i → i < (quoM m).n → ∃ r : Nat, (r : Int) < m.n ∧ clM m r = i := fun i i0 i1 => by
    obtain ⟨a, rfl⟩ := Int.eq_ofNat_of_zero_le i0
    have i1' : (a : Int) < ((reps (alkR m (rdV m)) m.n.toNat).length : Int) := i1
    obtain ⟨r, h1, h2, _, h4⟩ := reps_mem (R := alkR m (rdV m)) (N := m.n.toNat) (i := a) (by omega)
    refine ⟨r, by omega, ?_⟩
    have : clM m r = cl (alkR m (rdV m)) r := by unfold clM; rw [Int.toNat_natCast]
    rw [this, cl_none h2, h4]
  obtain ⟨r, hr, er⟩ := rp i i0 i1
  obtain ⟨q, hq, eq⟩ := rp j j0 j1
  rw [← er, ← eq, alk_hom (quo_hom R) _ (mem_allS.2 ⟨by omega, hr⟩) (mem_allS.2 ⟨by omega, hq⟩)] at h
  rw [← er, ← eq]
  exact (clM_iff (by omega) hr (by omega) hq).2 h

/-- The least machine. -/
def minM (m : Mc) : Mc := canM (quoM m)
theorem full_min {m : Mc} (F : Full m) : Full (minM m) := full_can (full_quo F)
theorem fromV_quo {m : Mc} (F : Full m) (w : List Int) : (fromV (quoM m) 0 w).2 = (fromV m 0 w).2 := by
  have h := mch_full F
  have hc := mch_full (full_quo F)
  have n0 := F.r.n0
  have n1 := (full_quo F).r.n0
  by_cases hw : (wchV w m.k).2 = 0
  · rw [fromV_ok h (Int.le_refl _) (by omega) hw, fromV_ok hc (Int.le_refl _) (by omega) hw]
    obtain ⟨_, _, _, hwd⟩ := word_of_chk hw
    have := goV_hom (quo_hom F.r) F.r.k0 w 0 [] (mem_allS.2 ⟨by omega, by omega⟩) fun x hx => by
      obtain ⟨p, hp, rfl⟩ := mem_gd hx
      exact hwd p hp
    rw [clM_zero] at this
    rw [this]
  · rw [fromV_word h (Int.le_refl _) (by omega) hw, fromV_word hc (Int.le_refl _) (by omega) hw]; rfl
theorem fromV_min {m : Mc} (F : Full m) (w : List Int) : (fromV (minM m) 0 w).2 = (fromV m 0 w).2 := by
  unfold minM
  rw [fromV_can (mch_full (full_quo F)) w, fromV_quo F w]

end Go.Proofs.Ytlcablkhomnieaa

/-
  The least machine has no two states alike, comes to all, and is the same for all machines that say the same: in plain words.
-/
namespace Go.Proofs.Ytlcablkhomnieaa
open Go.RowKit

theorem can_hom {m : Mc} (R : Right m) : Hom m (canM m) (rchV m).1 (fun t => (((rchV m).1.idxOf t : Nat) : Int)) := by
  refine ⟨rfl, rfl, fun s hs x hx => rch_closed R hs hx, fun s hs x hx => nxt_can R hs hx, fun s hs => ?_⟩
  obtain ⟨h1, h2⟩ := idx_get hs
  have := rowO_pick (m := m) (S := (rchV m).1) (f := fun t => (((rchV m).1.idxOf t : Nat) : Int)) h1
  rw [h2] at this
  exact this
theorem rch_rng {m : Mc} (R : Right m) {s : Int} (hs : s ∈ (rchV m).1) : 0 ≤ s ∧ s < m.n := by
  obtain ⟨q, hq, rfl⟩ := mem_gd hs
  exact (rchV_inv R).rng q hq
/-- A state of Canon is a state that can be come to. -/
theorem can_state {m : Mc} (R : Right m) {i : Int} (i0 : 0 ≤ i) (i1 : i < (canM m).n) : ∃ s ∈ (rchV m).1, (((rchV m).1.idxOf s : Nat) : Int) = i := by
  obtain ⟨a, rfl⟩ := Int.eq_ofNat_of_zero_le i0
  have i1' : (a : Int) < ((rchV m).1.length : Int) := i1
  have ha : a < (rchV m).1.length := by omega
  exact ⟨(rchV m).1.getD a 0, gd_mem ha, by rw [idx_at (rchV_inv R).nd ha]⟩
/-- No two states of the least machine are alike up to some length. -/
theorem min_apart {m : Mc} (F : Full m) {i j : Int} (i0 : 0 ≤ i) (i1 : i < (minM m).n) (j0 : 0 ≤ j) (j1 : j < (minM m).n) (h : alk (minM m) (rdV m) i j = true) : i = j := by
  have Q := (full_quo F).r
  obtain ⟨s, hs, rfl⟩ := can_state Q i0 i1
  obtain ⟨t, ht, rfl⟩ := can_state Q j0 j1
  have h2 := alk_hom (can_hom Q) (rdV m) hs ht
  have h3 : alk (quoM m) (rdV m) s t = true := by rw [← h2]; exact h
  have a := rch_rng Q hs
  have b := rch_rng Q ht
  rw [quo_apart F.r a.1 a.2 b.1 b.2 h3]
theorem alk_all {m : Mc} (R : Right m) {s t : Int} (s0 : 0 ≤ s) (s1 : s < m.n) (t0 : 0 ≤ t) (t1 : t < m.n) (h : alk m (rdV m) s t = true) (n : Nat) : alk m n s t = true := by
  by_cases c : rdV m ≤ n
  · rw [alk_end R c s0 s1 t0 t1]; exact h
  · exact alk_mono (by omega) h
theorem min_one {m : Mc} (F : Full m) {i j : Int} (i0 : 0 ≤ i) (i1 : i < (minM m).n) (j0 : 0 ≤ j) (j1 : j < (minM m).n) (h : alk (minM m) (rdV (minM m)) i j = true) : i = j :=
  min_apart F i0 i1 j0 j1 (alk_all (full_min F).r i0 i1 j0 j1 h _)

/-- Where no two are in one class each is its own. -/
theorem cls_id {R : Nat → Nat → Bool} : ∀ {N : Nat}, (∀ s t, s < N → t < N → R s t = true → s = t) → nc R N = N ∧ clL R N = (List.range N).map fun i : Nat => (i : Int)
  | 0, _ => ⟨rfl, rfl⟩
  | N + 1, h => by
    obtain ⟨h1, h2⟩ := cls_id (N := N) fun s t hs ht => h s t (by omega) (by omega)
    have hf : first (R N) N = none := first_none fun j hj => by
      cases c : R N j
      · rfl
      · have := h N j (by omega) (by omega) c; omega
    refine ⟨?_, ?_⟩
    · show nc R N + _ = _; rw [if_pos hf, h1]
    · show clL R N ++ _ = _
      rw [hf, h1, h2, List.range_succ, List.map_append]; rfl
theorem min_cls {m : Mc} (F : Full m) : aftL (minM m) (rdV (minM m)) = (List.range (minM m).n.toNat).map fun i : Nat => (i : Int) := by
  have n0 := (full_min F).r.n0
  refine (cls_id fun s t hs ht h => ?_).2
  have := min_one F (i := (s : Int)) (j := (t : Int)) (by omega) (by omega) (by omega) (by omega) h
  omega
theorem can_min {m : Mc} (F : Full m) : canM (minM m) = minM m := can_can (full_quo F)
/-- Minimised again it is the same. -/
theorem min_min {m : Mc} (F : Full m) : minM (minM m) = minM m := by
  have Fa := full_min F
  have H := quo_hom Fa.r
  have e : canM (quoM (minM m)) = canM (minM m) := by
    refine canM_ren (f := clM (minM m)) Fa.r (full_quo Fa).r rfl rfl rfl clM_zero (fun s hs x hx => ?_) (fun s hs => ?_) fun s hs t ht e => ?_
    · exact H.nx s (mem_allS.2 (rch_rng Fa.r hs)) x hx
    · exact H.so s (mem_allS.2 (rch_rng Fa.r hs))
    · have a := rch_rng Fa.r hs
      have b := rch_rng Fa.r ht
      exact min_one F a.1 a.2 b.1 b.2 ((clM_iff a.1 a.2 b.1 b.2).1 e)
  show canM (quoM (minM m)) = _
  rw [e, can_min F]
/-- Canon comes to all its states. -/
theorem can_all {m : Mc} (F : Full m) : ((rchV (canM m)).1.length : Int) = (canM m).n := by
  have R := F.r
  have I := rchV_inv R
  have e := rchV_map (f := fun t => (((rchV m).1.idxOf t : Nat) : Int)) R (full_can F).r rfl (by
    have := idx_at I.nd I.ne
    rw [I.s0] at this
    show (((rchV m).1.idxOf 0 : Nat) : Int) = 0
    rw [this]; rfl) (fun s hs x hx => nxt_can R hs hx) fun s hs t ht e => by
    have e2 : (rchV m).1.idxOf s = (rchV m).1.idxOf t := by
      have : (((rchV m).1.idxOf s : Nat) : Int) = (((rchV m).1.idxOf t : Nat) : Int) := e
      omega
    have h1 := (idx_get hs).2
    rw [e2, (idx_get ht).2] at h1
    exact h1.symm
  rw [e, List.length_map]; rfl
theorem min_n {m : Mc} (F : Full m) : (minM m).n ≤ m.n := by
  have h1 := (rch_len (full_quo F).r).2
  have h2 : (quoM m).n ≤ m.n := by
    show ((reps (alkR m (rdV m)) m.n.toNat).length : Int) ≤ m.n
    rw [reps_len]
    have := nc_le (alkR m (rdV m)) m.n.toNat
    have := F.r.n0
    omega
  have h3 : (minM m).n = ((rchV (quoM m)).1.length : Int) := rfl
  omega

/-- Two machines say the same of all words. -/
def Same2 (m : Mc) (s : Int) (o : Mc) (t : Int) : Prop := ∀ w : List Int, (∀ x ∈ w, 0 ≤ x ∧ x < m.k) → (goV m s w []).2 = (goV o t w []).2
theorem goV_one {m : Mc} {s x : Int} {w : List Int} (h : m.kind ≠ 2) : goV m s (x :: w) [] = goV m (nxt m s x) w [] := by
  simp only [goV, if_neg h]; rfl
theorem goV_two {m : Mc} {s x : Int} {w : List Int} (h : m.kind = 2) : (goV m s (x :: w) []).2 = m.out.getD (s * m.k + x).toNat 0 :: (goV m (nxt m s x) w []).2 := by
  have e : goV m s (x :: w) [] = goV m (nxt m s x) w [m.out.getD (s * m.k + x).toNat 0] := by simp only [goV, if_pos h]; rfl
  rw [e, goV_acc h]; rfl
/-- What is said of all words tells which states are alike. -/
theorem alk_same {m : Mc} (k0 : 1 ≤ m.k) (hkd : m.kind = 1 ∨ m.kind = 2) : ∀ (n : Nat) {s t : Int}, Same2 m s m t → alk m n s t = true
  | 0, s, t, h => by
    unfold alk
    by_cases hk : m.kind = 1
    · rw [if_pos hk]
      have h1 := h [] (by simp)
      rw [goV_nil1 hk, goV_nil1 hk] at h1
      have hpp : pp m = 1 := by unfold pp; rw [if_pos hk]
      unfold nowB rowO
      rw [hpp]
      refine decide_eq_true ?_
      have e1 : (s * ((1 : Nat) : Int) + ((0 : Nat) : Int)).toNat = s.toNat := by omega
      have e2 : (t * ((1 : Nat) : Int) + ((0 : Nat) : Int)).toNat = t.toNat := by omega
      show [m.out.getD (s * ((1 : Nat) : Int) + ((0 : Nat) : Int)).toNat 0] = [m.out.getD (t * ((1 : Nat) : Int) + ((0 : Nat) : Int)).toNat 0]
      rw [e1, e2]; exact h1
    · rw [if_neg hk]
  | n + 1, s, t, h => by
    have hstep : ∀ x : Nat, (x : Int) < m.k → Same2 m (nxt m s x) m (nxt m t x) := fun x hx w hw => by
      have h1 := h ((x : Int) :: w) (fun y hy => by
        rcases List.mem_cons.1 hy with rfl | hy
        · omega
        · exact hw y hy)
      by_cases hk : m.kind = 2
      · rw [goV_two hk, goV_two hk] at h1
        exact (List.cons.inj h1).2
      · rw [goV_one hk, goV_one hk] at h1
        exact h1
    refine alk_succ.2 ⟨alk_same k0 hkd n h, fun hk => ?_, fun x hx => alk_same k0 hkd n (hstep x hx)⟩
    have hpp : pp m = m.k.toNat := by unfold pp; rw [if_neg (by omega)]
    have hkc : ((pp m : Nat) : Int) = m.k := by rw [hpp, Int.toNat_of_nonneg (by omega)]
    unfold nowB rowO
    refine decide_eq_true ?_
    apply List.map_congr_left
    intro x hx
    have hx' := List.mem_range.1 hx
    have h1 := h [(x : Int)] (fun y hy => by rw [List.mem_singleton] at hy; subst hy; omega)
    rw [goV_two hk, goV_two hk] at h1
    rw [hkc]
    exact (List.cons.inj h1).1
theorem same_quo {m : Mc} (R : Right m) : Same2 m 0 (quoM m) 0 := fun w hw => by
  have := goV_hom (quo_hom R) R.k0 w 0 [] (mem_allS.2 ⟨by omega, by have := R.n0; omega⟩) hw
  rw [clM_zero] at this
  rw [this]
theorem same_can {m : Mc} (R : Right m) : Same2 m 0 (canM m) 0 := fun w hw => by
  have I := rchV_inv R
  have h0 : (0 : Int) ∈ (rchV m).1 := by have := gd_mem I.ne; rwa [I.s0] at this
  have i0 : (rchV m).1.idxOf 0 = 0 := by have := idx_at I.nd I.ne; rwa [I.s0] at this
  have := goV_can R w 0 [] h0 hw
  rw [i0] at this
  show _ = (goV (canM m) (((0 : Nat) : Int)) w []).2
  rw [this]
theorem same_min {m : Mc} (F : Full m) : Same2 m 0 (minM m) 0 := fun w hw => (same_quo F.r w hw).trans (same_can (full_quo F).r w hw)

theorem ends_app (m : Mc) (s : Int) (u w : List Int) : ends m s (u ++ w) = ends m (ends m s u) w := by unfold ends; rw [List.foldl_append]
theorem goV_after {m : Mc} (s : Int) (u w : List Int) : (m.kind ≠ 2 → (goV m s (u ++ w) []).2 = (goV m (ends m s u) w []).2) ∧ (m.kind = 2 → (goV m s (u ++ w) []).2 = (goV m s u []).2 ++ (goV m (ends m s u) w []).2) := by
  refine ⟨fun hk => ?_, fun hk => ?_⟩
  · rw [goV_app1 hk, goV_ends]
  · rw [goV_app2 hk, goV_acc hk]
    show _ ++ (goV m (goV m s u []).1 w []).2 = _
    rw [goV_ends m u s []]
/-- Behind two words that lead to one state of the one, the other says the same. -/
theorem same_after {a b : Mc} (hkd : b.kind = a.kind) (hk : b.k = a.k) (h : Same2 a 0 b 0) {u v : List Int} (hu : ∀ x ∈ u, 0 ≤ x ∧ x < a.k) (hv : ∀ x ∈ v, 0 ≤ x ∧ x < a.k) (e : ends a 0 u = ends a 0 v) : Same2 b (ends b 0 u) b (ends b 0 v) := fun w hw => by
  rw [hk] at hw
  have app : ∀ z : List Int, (∀ x ∈ z, 0 ≤ x ∧ x < a.k) → ∀ x ∈ z ++ w, 0 ≤ x ∧ x < a.k := fun z hz x hx => by
    rcases List.mem_append.1 hx with hx | hx
    · exact hz x hx
    · exact hw x hx
  have h1 := h (u ++ w) (app u hu)
  have h2 := h (v ++ w) (app v hv)
  by_cases c : a.kind = 2
  · have c' : b.kind = 2 := by rw [hkd]; exact c
    rw [(goV_after 0 u w).2 c, (goV_after 0 u w).2 c', h u hu] at h1
    rw [(goV_after 0 v w).2 c, (goV_after 0 v w).2 c', h v hv] at h2
    rw [← List.append_cancel_left h1, ← List.append_cancel_left h2, e]
  · have c' : b.kind ≠ 2 := by rw [hkd]; exact c
    rw [(goV_after 0 u w).1 c, (goV_after 0 u w).1 c'] at h1
    rw [(goV_after 0 v w).1 c, (goV_after 0 v w).1 c'] at h2
    rw [← h1, ← h2, e]

theorem ends_range {m : Mc} (R : Right m) : ∀ (w : List Int) {s : Int}, 0 ≤ s → s < m.n → (∀ x ∈ w, 0 ≤ x ∧ x < m.k) → 0 ≤ ends m s w ∧ ends m s w < m.n
  | [], s, s0, s1, _ => ⟨s0, s1⟩
  | x :: w, s, s0, s1, hw => by
    have hx := hw x (by simp)
    obtain ⟨y, rfl⟩ := Int.eq_ofNat_of_zero_le hx.1
    have h1 := nxt_range R s0 s1 hx.2
    exact ends_range R w h1.1 h1.2 fun z hz => hw z (by simp [hz])
theorem row_same {a b : Mc} (hkd : b.kind = a.kind) (hk : b.k = a.k) (ha : a.kind = 1 ∨ a.kind = 2) (k0 : 1 ≤ a.k) {s t : Int} (h : Same2 a s b t) : rowO b t (pp b) = rowO a s (pp a) := by
  rcases ha with c | c
  · have c' : b.kind = 1 := by rw [hkd]; exact c
    have h1 := h [] (by simp)
    rw [goV_nil1 c, goV_nil1 c'] at h1
    have p1 : pp a = 1 := by unfold pp; rw [if_pos c]
    have p2 : pp b = 1 := by unfold pp; rw [if_pos c']
    unfold rowO
    rw [p1, p2]
    have e1 : (s * ((1 : Nat) : Int) + ((0 : Nat) : Int)).toNat = s.toNat := by omega
    have e2 : (t * ((1 : Nat) : Int) + ((0 : Nat) : Int)).toNat = t.toNat := by omega
    show [b.out.getD (t * ((1 : Nat) : Int) + ((0 : Nat) : Int)).toNat 0] = [a.out.getD (s * ((1 : Nat) : Int) + ((0 : Nat) : Int)).toNat 0]
    rw [e1, e2]; exact h1.symm
  · have c' : b.kind = 2 := by rw [hkd]; exact c
    have p1 : pp a = a.k.toNat := by unfold pp; rw [if_neg (by omega)]
    have p2 : pp b = pp a := by unfold pp; rw [if_neg (by omega), if_neg (by omega), hk]
    have hkc : ((pp a : Nat) : Int) = a.k := by rw [p1, Int.toNat_of_nonneg (by omega)]
    unfold rowO
    rw [p2]
    apply List.map_congr_left
    intro x hx
    have hx' := List.mem_range.1 hx
    have h1 := h [(x : Int)] (fun y hy => by rw [List.mem_singleton] at hy; subst hy; omega)
    rw [goV_two c, goV_two c', hk] at h1
    rw [hkc]
    exact (List.cons.inj h1).1.symm
theorem same_behind {a b : Mc} (hkd : b.kind = a.kind) (h : Same2 a 0 b 0) {u : List Int} (hu : ∀ x ∈ u, 0 ≤ x ∧ x < a.k) : Same2 a (ends a 0 u) b (ends b 0 u) := fun w hw => by
  have h1 := h (u ++ w) (fun x hx => by
    rcases List.mem_append.1 hx with hx | hx
    · exact hu x hx
    · exact hw x hx)
  by_cases c : a.kind = 2
  · have c' : b.kind = 2 := by rw [hkd]; exact c
    rw [(goV_after 0 u w).2 c, (goV_after 0 u w).2 c', h u hu] at h1
    exact List.append_cancel_left h1
  · have c' : b.kind ≠ 2 := by rw [hkd]; exact c
    rw [(goV_after 0 u w).1 c, (goV_after 0 u w).1 c'] at h1
    exact h1
/-- One least machine of all that say the same. -/
theorem min_unique {m o : Mc} (F : Full m) (G : Full o) (hkd : o.kind = m.kind) (hk : o.k = m.k) (ho : o.o = m.o) (h : Same2 m 0 o 0) : minM o = minM m := by
  have Fa := full_min F
  have Gb := full_min G
  have hab : Same2 (minM m) 0 (minM o) 0 := fun w hw => by
    have hw' : ∀ x ∈ w, 0 ≤ x ∧ x < m.k := hw
    rw [← same_min F w hw', h w hw', same_min G w (by rw [hk]; exact hw')]
  have kab : (minM o).kind = (minM m).kind := hkd
  have ka : (minM o).k = (minM m).k := hk
  have I := rchV_inv Fa.r
  -- the access word of a state
  have wd : ∀ s ∈ (rchV (minM m)).1, (∀ x ∈ (rchV (minM m)).2.getD ((rchV (minM m)).1.idxOf s) [], 0 ≤ x ∧ x < (minM m).k) ∧ ends (minM m) 0 ((rchV (minM m)).2.getD ((rchV (minM m)).1.idxOf s) []) = s := fun s hs => by
    obtain ⟨h1, h2⟩ := idx_get hs
    exact ⟨I.sym _ h1, by rw [I.lead _ h1, h2]⟩
  have n0 := Fa.r.n0
  have n1 := Gb.r.n0
  have eqb : ∀ u v : List Int, (∀ x ∈ u, 0 ≤ x ∧ x < (minM m).k) → (∀ x ∈ v, 0 ≤ x ∧ x < (minM m).k) → ends (minM m) 0 u = ends (minM m) 0 v → ends (minM o) 0 u = ends (minM o) 0 v := fun u v hu hv e => by
    have h1 := same_after kab ka hab hu hv e
    have r1 := ends_range Gb.r u (s := 0) (by omega) (by omega) (by rw [ka]; exact hu)
    have r2 := ends_range Gb.r v (s := 0) (by omega) (by omega) (by rw [ka]; exact hv)
    exact min_apart G r1.1 r1.2 r2.1 r2.2 (alk_same Gb.r.k0 Gb.r.kd _ h1)
  have e : canM (minM o) = canM (minM m) := by
    refine canM_ren (f := fun s => ends (minM o) 0 ((rchV (minM m)).2.getD ((rchV (minM m)).1.idxOf s) [])) Fa.r Gb.r kab ka ho ?_ (fun s hs x hx => ?_) (fun s hs => ?_) fun s hs t ht e => ?_
    · have i0 := idx_at I.nd I.ne
      rw [I.s0] at i0
      show ends (minM o) 0 ((rchV (minM m)).2.getD ((rchV (minM m)).1.idxOf 0) []) = 0
      rw [i0, I.v0]; rfl
    · obtain ⟨w1, w2⟩ := wd s hs
      obtain ⟨y1, y2⟩ := wd _ (rch_closed Fa.r hs hx)
      show nxt (minM o) (ends (minM o) 0 _) x = ends (minM o) 0 _
      rw [← ends_snoc]
      refine eqb _ _ (fun z hz => ?_) y1 (by rw [ends_snoc, w2, y2])
      rcases List.mem_append.1 hz with hz | hz
      · exact w1 z hz
      · rw [List.mem_singleton] at hz; subst hz; omega
    · obtain ⟨w1, w2⟩ := wd s hs
      have h1 := same_behind kab hab w1
      rw [w2] at h1
      exact row_same kab ka Fa.r.kd Fa.r.k0 h1
    · obtain ⟨w1, w2⟩ := wd s hs
      obtain ⟨y1, y2⟩ := wd t ht
      have h1 := same_behind kab hab w1
      have h2 := same_behind kab hab y1
      rw [w2] at h1
      rw [y2] at h2
      have e' : ends (minM o) 0 ((rchV (minM m)).2.getD ((rchV (minM m)).1.idxOf s) []) = ends (minM o) 0 ((rchV (minM m)).2.getD ((rchV (minM m)).1.idxOf t) []) := e
      have h3 : Same2 (minM m) s (minM m) t := fun w hw => by rw [h1 w hw, e', h2 w hw]
      have a := rch_rng Fa.r hs
      have b := rch_rng Fa.r ht
      exact min_apart F a.1 a.2 b.1 b.2 (alk_same Fa.r.k0 Fa.r.kd _ h3)
  rw [can_min F, can_min G] at e
  exact e
theorem same_of_min {m o : Mc} (F : Full m) (G : Full o) (hk : o.k = m.k) (e : minM o = minM m) : Same2 m 0 o 0 := fun w hw => by
  rw [same_min F w hw, same_min G w (by rw [hk]; exact hw), e]

end Go.Proofs.Ytlcablkhomnieaa

/-
  Pairs of states that are gone through together tell whether two machines say the same: in plain words.
-/
namespace Go.Proofs.Ytlcablkhomnieaa
open Go.RowKit

/-- A set of pairs that says the same and is closed: all words are said alike. -/
theorem pair_go {m o : Mc} (hkd : o.kind = m.kind) (hk : o.k = m.k) (hc : m.kind = 1 ∨ m.kind = 2) (k0 : 1 ≤ m.k) {T : Int → Int → Prop} (hT : ∀ s t, T s t → rowO o t (pp o) = rowO m s (pp m) ∧ ∀ x : Nat, (x : Int) < m.k → T (nxt m s x) (nxt o t x)) :
    ∀ (w : List Int) (s t : Int), T s t → (∀ x ∈ w, 0 ≤ x ∧ x < m.k) → (goV m s w []).2 = (goV o t w []).2
  | [], s, t, h, _ => by
    have hr := (hT s t h).1
    have hp : pp o = pp m := by unfold pp; rw [hkd, hk]
    rcases hc with c | c
    · have c' : o.kind = 1 := by rw [hkd]; exact c
      have p1 : pp m = 1 := by unfold pp; rw [if_pos c]
      have h3 := rowO_at hr hp (x := 0) (by omega)
      rw [hp, p1] at h3
      have e1 : (t * ((1 : Nat) : Int) + ((0 : Nat) : Int)).toNat = t.toNat := by omega
      have e2 : (s * ((1 : Nat) : Int) + ((0 : Nat) : Int)).toNat = s.toNat := by omega
      rw [e1, e2] at h3
      rw [goV_nil1 c, goV_nil1 c', h3]
    · rw [goV_nil2 (by omega), goV_nil2 (by omega)]
  | x :: w, s, t, h, hw => by
    have hx := hw x (by simp)
    obtain ⟨y, rfl⟩ := Int.eq_ofNat_of_zero_le hx.1
    obtain ⟨hr, hn⟩ := hT s t h
    have ih := pair_go hkd hk hc k0 hT w _ _ (hn y hx.2) fun z hz => hw z (by simp [hz])
    have hp : pp o = pp m := by unfold pp; rw [hkd, hk]
    by_cases c : m.kind = 2
    · have c' : o.kind = 2 := by rw [hkd]; exact c
      have p1 : pp m = m.k.toNat := by unfold pp; rw [if_neg (by omega)]
      have hkc : ((pp m : Nat) : Int) = m.k := by rw [p1, Int.toNat_of_nonneg (by omega)]
      have h3 := rowO_at hr hp (x := y) (by omega)
      rw [hp, hkc] at h3
      rw [goV_two c, goV_two c', ih, hk, h3]
    · have c' : o.kind ≠ 2 := by rw [hkd]; exact c
      rw [goV_one c, goV_one c', ih]
theorem pair_same {m o : Mc} (hkd : o.kind = m.kind) (hk : o.k = m.k) (hc : m.kind = 1 ∨ m.kind = 2) (k0 : 1 ≤ m.k) {T : Int → Int → Prop} (h0 : T 0 0) (hT : ∀ s t, T s t → rowO o t (pp o) = rowO m s (pp m) ∧ ∀ x : Nat, (x : Int) < m.k → T (nxt m s x) (nxt o t x)) : Same2 m 0 o 0 :=
  fun w hw => pair_go hkd hk hc k0 hT w 0 0 h0 hw
/-- Two states that one word leads to and that say otherwise: a word tells the machines apart. -/
theorem pair_apart {m o : Mc} (hkd : o.kind = m.kind) (hk : o.k = m.k) (hc : m.kind = 1 ∨ m.kind = 2) (k0 : 1 ≤ m.k) {u : List Int} (hu : ∀ x ∈ u, 0 ≤ x ∧ x < m.k) (hr : rowO o (ends o 0 u) (pp o) ≠ rowO m (ends m 0 u) (pp m)) : ¬ Same2 m 0 o 0 := fun h =>
  hr (row_same hkd hk hc k0 (same_behind hkd h hu))

end Go.Proofs.Ytlcablkhomnieaa

/-
  A relation among states that says the same and is kept by steps holds of states that are alike alone: in plain words, for layer 6.
-/
namespace Go.Proofs.Ytlcablkhomnieaa
open Go.RowKit

theorem alk_of_stable {m : Mc} (R : Right m) {Q : Int → Int → Prop} (hnow : ∀ s t, 0 ≤ s → s < m.n → 0 ≤ t → t < m.n → Q s t → nowB m s t = true) (hstep : ∀ s t, 0 ≤ s → s < m.n → 0 ≤ t → t < m.n → Q s t → ∀ x : Nat, (x : Int) < m.k → Q (nxt m s x) (nxt m t x)) :
    ∀ (n : Nat) {s t : Int}, 0 ≤ s → s < m.n → 0 ≤ t → t < m.n → Q s t → alk m n s t = true
  | 0, s, t, s0, s1, t0, t1, h => by
    unfold alk
    split
    · exact hnow s t s0 s1 t0 t1 h
    · rfl
  | n + 1, s, t, s0, s1, t0, t1, h => alk_succ.2 ⟨alk_of_stable R hnow hstep n s0 s1 t0 t1 h, fun _ => hnow s t s0 s1 t0 t1 h, fun x hx => by
    have a := nxt_range R s0 s1 hx
    have b := nxt_range R t0 t1 hx
    exact alk_of_stable R hnow hstep n a.1 a.2 b.1 b.2 (hstep s t s0 s1 t0 t1 h x hx)⟩
/-- Steps keep what is alike. -/
theorem alk_step {m : Mc} (R : Right m) {s t : Int} (s0 : 0 ≤ s) (s1 : s < m.n) (t0 : 0 ≤ t) (t1 : t < m.n) (h : alk m (rdV m) s t = true) {x : Nat} (hx : (x : Int) < m.k) : alk m (rdV m) (nxt m s x) (nxt m t x) = true :=
  (alk_succ.1 ((rdV_spec R.n0).1 s t s0 s1 t0 t1 h)).2.2 x hx

end Go.Proofs.Ytlcablkhomnieaa
