/-
  Some texts of this seat, one behind the other.
-/
import Derived.Test.YtnakadlhafggkaaK2
import Derived.Test.YtnakadlhafggkaaK6
/-
  What is said stays, numbers play no part: machines whose states have other numbers, in plain words.
-/
namespace Go.Proofs.Ytnakadlhafggkaa
open Go.RowKit

theorem flat_get {row : Int → List Int} {K : Nat} (hr : ∀ s, (row s).length = K) : ∀ (S : List Int) (i x : Nat), i < S.length → x < K → (S.flatMap row).getD (i * K + x) 0 = (row (S.getD i 0)).getD x 0
  | [], i, x, h, _ => by simp at h
  | s :: S, 0, x, _, hx => by
    rw [List.flatMap_cons, Nat.zero_mul, Nat.zero_add, gd_left 0 (by rw [hr]; exact hx)]
    rfl
  | s :: S, i + 1, x, h, hx => by
    have ih := flat_get hr S i x (by simpa using h) hx
    have e : (i + 1) * K + x = (row s).length + (i * K + x) := by rw [hr, Nat.add_mul, Nat.one_mul]; omega
    rw [List.flatMap_cons, e]
    have e2 : (row s ++ S.flatMap row).getD ((row s).length + (i * K + x)) 0 = (S.flatMap row).getD (i * K + x) 0 := by
      simp only [List.getD]
      rw [List.getElem?_append_right (by omega)]
      congr 2
      omega
    rw [e2, ih]
    rfl
theorem rowN_get (m : Mc) (f : Int → Int) (s : Int) {n x : Nat} (h : x < n) : (rowN m f s n).getD x 0 = f (nxt m s (x : Int)) := by
  unfold rowN
  simp only [List.getD, List.getElem?_map, List.getElem?_range h, Option.map_some, Option.getD_some]
theorem rowO_get (m : Mc) (s : Int) {n x : Nat} (h : x < n) : (rowO m s n).getD x 0 = m.out.getD (s * (pp m : Int) + (x : Int)).toNat 0 := by
  unfold rowO
  simp only [List.getD, List.getElem?_map, List.getElem?_range h, Option.map_some, Option.getD_some]
theorem nxt_pick {m : Mc} (k0 : 1 ≤ m.k) {S : List Int} {f : Int → Int} {i x : Nat} (hi : i < S.length) (hx : (x : Int) < m.k) : nxt (pickV m S f) (i : Int) (x : Int) = f (nxt m (S.getD i 0) x) := by
  have e : ((i : Int) * m.k + (x : Int)).toNat = i * m.k.toNat + x := by
    have : ((i * m.k.toNat : Nat) : Int) = (i : Int) * m.k := by rw [Int.natCast_mul, Int.toNat_of_nonneg (by omega)]
    omega
  show (nxR m f S).getD ((i : Int) * m.k + (x : Int)).toNat 0 = _
  rw [e]
  unfold nxR
  rw [flat_get (K := m.k.toNat) (fun s => rowN_len _ _ _ _) S i x hi (by omega), rowN_get _ _ _ (by omega)]
theorem out_pick {m : Mc} {S : List Int} {f : Int → Int} {i x : Nat} (hi : i < S.length) (hx : x < pp m) : (pickV m S f).out.getD ((i : Int) * (pp m : Int) + (x : Int)).toNat 0 = m.out.getD (S.getD i 0 * (pp m : Int) + (x : Int)).toNat 0 := by
  have e : ((i : Int) * (pp m : Int) + (x : Int)).toNat = i * pp m + x := by
    have : ((i * pp m : Nat) : Int) = (i : Int) * (pp m : Int) := Int.natCast_mul _ _
    omega
  show (ouR m S).getD _ 0 = _
  rw [e]
  unfold ouR
  rw [flat_get (K := pp m) (fun s => rowO_len _ _ _) S i x hi hx, rowO_get _ _ hx]
theorem pp_pick (m : Mc) (S : List Int) (f : Int → Int) : pp (pickV m S f) = pp m := rfl
theorem rowO_pick {m : Mc} {S : List Int} {f : Int → Int} {i : Nat} (hi : i < S.length) : rowO (pickV m S f) (i : Int) (pp (pickV m S f)) = rowO m (S.getD i 0) (pp m) := by
  rw [pp_pick]
  unfold rowO
  apply List.map_congr_left
  intro x hx
  rw [List.mem_range] at hx
  rw [pp_pick]
  exact out_pick hi hx

/-- What Check lets pass, with the bounds of O. -/
structure Full (m : Mc) : Prop where
  r : Right m
  od : m.kind = 1 → m.o = 2
  o0 : 1 ≤ m.o
  o1 : m.o ≤ 64
theorem full_of {m : Mc} (h : (mchV m).2 = 0) : Full m := by
  have R := right_of h
  unfold mchV at h
  by_cases hk : m.kind = 1
  · rw [if_pos hk] at h
    rcases szV_cases m 2 2 1 with ⟨_, s⟩ | ⟨hz, _, _⟩
    · have := s.o0; have := s.o1
      exact ⟨R, fun _ => by omega, by omega, by omega⟩
    · rw [if_neg hz] at h; exact absurd h hz
  · rw [if_neg hk] at h
    by_cases hk2 : m.kind = 2
    · rw [if_pos hk2] at h
      rcases szV_cases m 1 64 m.k with ⟨_, s⟩ | ⟨hz, _, _⟩
      · exact ⟨R, fun h => absurd h hk, s.o0, s.o1⟩
      · rw [if_neg hz] at h; exact absurd h hz
    · rw [if_neg hk2] at h; cases h
theorem mch_full {m : Mc} (h : Full m) : (mchV m).2 = 0 := by
  have R := h.r
  have e1 : bdAt m.nx m.n = none := bdAt_none fun i hi => bad_no (R.st i hi).1 (R.st i hi).2
  have e2 : bdAt m.out m.o = none := bdAt_none fun i hi => bad_no (R.so i hi).1 (R.so i hi).2
  have e3 := enV_ok e1 e2
  unfold mchV
  rcases R.kd with hk | hk
  · rw [if_pos hk, szV_ok R.k0 R.k1 (by rw [h.od hk]; decide) (by rw [h.od hk]; decide) R.n0 R.n1 R.nx (by rw [R.outD hk]; omega), if_pos rfl, e3]
  · rw [if_neg (by omega), if_pos hk, szV_ok R.k0 R.k1 h.o0 h.o1 R.n0 R.n1 R.nx (R.outM hk), if_pos rfl, e3]
/-- A machine of some states, all ways among them, is one. -/
theorem full_pick {m : Mc} (h : Full m) {S : List Int} {f : Int → Int} (hl : S.length ≤ 1024) (hp : 0 < S.length) (hr : ∀ p, p < S.length → 0 ≤ S.getD p 0 ∧ S.getD p 0 < m.n) (hf : ∀ p, p < S.length → ∀ y : Nat, (y : Int) < m.k → 0 ≤ f (nxt m (S.getD p 0) y) ∧ f (nxt m (S.getD p 0) y) < S.length) : Full (pickV m S f) := by
  have R := h.r
  have k0 := R.k0
  have hpp := pp_le R
  have ln : ((nxR m f S).length : Int) = (S.length : Int) * m.k := by rw [nxR_len, Int.natCast_mul, Int.toNat_of_nonneg (by omega)]
  have lo : ((ouR m S).length : Int) = (S.length : Int) * (pp m : Int) := by rw [ouR_len, Int.natCast_mul]
  refine ⟨⟨R.kd, R.k0, R.k1, ?_, ?_, ln, fun hk => ?_, fun hk => ?_, fun j hj => ?_, fun j hj => ?_⟩, h.od, h.o0, h.o1⟩
  · show 1 ≤ (S.length : Int); omega
  · show (S.length : Int) ≤ 1024; omega
  · show ((ouR m S).length : Int) = (S.length : Int)
    have hk' : m.kind = 1 := hk
    rw [lo]; unfold pp; rw [if_pos hk']; omega
  · show ((ouR m S).length : Int) = (S.length : Int) * m.k
    have hk' : m.kind = 2 := hk
    rw [lo]; unfold pp; rw [if_neg (by omega), Int.toNat_of_nonneg (by omega)]
  · have hj' : j < S.length * m.k.toNat := by rw [← nxR_len m f S]; exact hj
    have hd : j / m.k.toNat < S.length := Nat.div_lt_of_lt_mul (by rw [Nat.mul_comm]; exact hj')
    have hm : j % m.k.toNat < m.k.toNat := Nat.mod_lt _ (by omega)
    have e : j = j / m.k.toNat * m.k.toNat + j % m.k.toNat := by rw [Nat.mul_comm]; exact (Nat.div_add_mod _ _).symm
    have h1 := hf _ hd (j % m.k.toNat) (by omega)
    show 0 ≤ (nxR m f S).getD j 0 ∧ (nxR m f S).getD j 0 < (S.length : Int)
    have h2 : (nxR m f S).getD j 0 = f (nxt m (S.getD (j / m.k.toNat) 0) ((j % m.k.toNat : Nat) : Int)) := by
      conv => lhs; rw [e]
      unfold nxR
      rw [flat_get (K := m.k.toNat) (fun s => rowN_len _ _ _ _) S _ _ hd hm, rowN_get _ _ _ hm]
    rw [h2]; exact h1
  · have hj' : j < S.length * pp m := by rw [← ouR_len m S]; exact hj
    have hd : j / pp m < S.length := Nat.div_lt_of_lt_mul (by rw [Nat.mul_comm]; exact hj')
    have hm : j % pp m < pp m := Nat.mod_lt _ (by omega)
    have e : j = j / pp m * pp m + j % pp m := by rw [Nat.mul_comm]; exact (Nat.div_add_mod _ _).symm
    have hr1 := hr _ hd
    obtain ⟨Q, q1, q2, q3, _⟩ := said_of R hr1.1 hr1.2
    show 0 ≤ (ouR m S).getD j 0 ∧ (ouR m S).getD j 0 < m.o
    have h2 : (ouR m S).getD j 0 = m.out.getD (Q + j % pp m) 0 := by
      conv => lhs; rw [e]
      unfold ouR
      rw [flat_get (K := pp m) (fun s => rowO_len _ _ _) S _ _ hd hm, rowO_get _ _ hm, q1]
      congr 1
    rw [h2]
    exact R.so _ (by omega)

/-- What can be come to is closed. -/
theorem rch_closed {m : Mc} (R : Right m) {s : Int} (hs : s ∈ (rchV m).1) {x : Nat} (hx : (x : Int) < m.k) : nxt m s x ∈ (rchV m).1 := by
  have I := rchV_inv R
  obtain ⟨p, hp, rfl⟩ := mem_gd hs
  obtain ⟨q, hq, e, _⟩ := I.cov p x (.inl ⟨hp, hx⟩) hp
  rw [← e]; exact gd_mem hq
theorem rch_len {m : Mc} (R : Right m) : (rchV m).1.length ≤ 1024 ∧ ((rchV m).1.length : Int) ≤ m.n := by
  have := (rchV_inv R).size R
  have := R.n1
  have := R.n0
  omega
theorem full_can {m : Mc} (h : Full m) : Full (canM m) := by
  have I := rchV_inv h.r
  refine full_pick h (rch_len h.r).1 I.ne I.rng fun p hp y hy => ?_
  have h1 := rch_closed h.r (gd_mem hp) hy
  have := List.idxOf_lt_length_iff.2 h1
  omega
theorem full_tur {m : Mc} (h : Full m) {p : List Int} (hp : IsP p m.n) : Full (turM m p) := by
  have R := h.r
  have n0 := R.n0
  have n1 := R.n1
  have hl := hp.1
  have i := ordP_inv hp
  have e := ordP_len p
  refine full_pick h (by omega) (by omega) (fun q hq => ?_) fun q hq y hy => ?_
  · have := i.rng q hq; omega
  · have hr := i.rng q hq
    have h1 := nxt_range R (s := (ordP p).getD q 0) (by omega) (by omega) hy
    have := List.idxOf_lt_length_iff.2 (ordP_idx hp h1.1 h1.2).2
    omega

end Go.Proofs.Ytnakadlhafggkaa

/-
  Canon says what the machine says, and is the same for all numberings: in plain words.
-/
namespace Go.Proofs.Ytnakadlhafggkaa
open Go.RowKit

theorem idx_get {S : List Int} {s : Int} (h : s ∈ S) : S.idxOf s < S.length ∧ S.getD (S.idxOf s) 0 = s := by
  have h1 := List.idxOf_lt_length_iff.2 h
  refine ⟨h1, ?_⟩
  rw [List.getD, List.getElem?_eq_getElem h1, Option.getD_some]; exact List.getElem_idxOf h1
theorem nxt_can {m : Mc} (R : Right m) {s : Int} (hs : s ∈ (rchV m).1) {x : Nat} (hx : (x : Int) < m.k) : nxt (canM m) (((rchV m).1.idxOf s : Nat) : Int) x = (((rchV m).1.idxOf (nxt m s x) : Nat) : Int) := by
  obtain ⟨h1, h2⟩ := idx_get hs
  unfold canM
  rw [nxt_pick R.k0 h1 hx, h2]

theorem goV_can {m : Mc} (R : Right m) : ∀ (w : List Int) (s : Int) (acc : List Int), s ∈ (rchV m).1 → (∀ x ∈ w, 0 ≤ x ∧ x < m.k) →
    goV (canM m) (((rchV m).1.idxOf s : Nat) : Int) w acc = ((((rchV m).1.idxOf (goV m s w acc).1 : Nat) : Int), (goV m s w acc).2)
  | [], s, acc, hs, _ => by
    obtain ⟨h1, h2⟩ := idx_get hs
    by_cases hk : m.kind = 1
    · have hpp : pp m = 1 := by unfold pp; rw [if_pos hk]
      have h3 := out_pick (m := m) (S := (rchV m).1) (f := fun t => (((rchV m).1.idxOf t : Nat) : Int)) (x := 0) h1 (by omega)
      rw [hpp, h2] at h3
      have e1 : (((((rchV m).1.idxOf s : Nat) : Int) * ((1 : Nat) : Int) + ((0 : Nat) : Int)).toNat) = ((((rchV m).1.idxOf s : Nat) : Int)).toNat := by omega
      have e2 : ((s * ((1 : Nat) : Int) + ((0 : Nat) : Int)).toNat) = s.toNat := by omega
      rw [e1, e2] at h3
      rw [goV_nil1 (m := m) hk, goV_nil1 (m := canM m) hk]
      show (_, [(canM m).out.getD _ 0]) = _
      rw [← h3]; rfl
    · rw [goV_nil2 (m := m) hk, goV_nil2 (m := canM m) hk]
  | x :: w, s, acc, hs, hw => by
    have hx := hw x (by simp)
    obtain ⟨y, rfl⟩ := Int.eq_ofNat_of_zero_le hx.1
    have hc := rch_closed R hs hx.2
    have hn := nxt_can R hs hx.2
    have hw' : ∀ z ∈ w, 0 ≤ z ∧ z < m.k := fun z hz => hw z (by simp [hz])
    have hn' : (canM m).nx.getD ((((rchV m).1.idxOf s : Nat) : Int) * (canM m).k + (y : Int)).toNat 0 = (((rchV m).1.idxOf (nxt m s y) : Nat) : Int) := hn
    simp only [goV]
    rw [hn']
    have hkk : (canM m).kind = m.kind := rfl
    rw [hkk]
    by_cases hk : m.kind = 2
    · have hpp : pp m = m.k.toNat := by unfold pp; rw [if_neg (by omega)]
      have k0 := R.k0
      have hkc : ((pp m : Nat) : Int) = m.k := by rw [hpp, Int.toNat_of_nonneg (by omega)]
      obtain ⟨h1, h2⟩ := idx_get hs
      have h3 := out_pick (m := m) (S := (rchV m).1) (f := fun t => (((rchV m).1.idxOf t : Nat) : Int)) (x := y) h1 (by omega)
      rw [hkc, h2] at h3
      have h3' : (canM m).out.getD ((((rchV m).1.idxOf s : Nat) : Int) * (canM m).k + (y : Int)).toNat 0 = m.out.getD (s * m.k + (y : Int)).toNat 0 := h3
      rw [if_pos hk, if_pos hk, h3']
      exact goV_can R w (nxt m s y) _ hc hw'
    · rw [if_neg hk, if_neg hk]
      exact goV_can R w (nxt m s y) _ hc hw'

theorem fromV_can {m : Mc} (h : (mchV m).2 = 0) (w : List Int) : (fromV (canM m) 0 w).2 = (fromV m 0 w).2 := by
  have F := full_of h
  have Fc := full_can F
  have hc := mch_full Fc
  have n0 := F.r.n0
  have n1 := Fc.r.n0
  by_cases hw : (wchV w m.k).2 = 0
  · rw [fromV_ok h (Int.le_refl _) (by omega) hw, fromV_ok hc (Int.le_refl _) (by omega) hw]
    have I := rchV_inv F.r
    have h0 : (0 : Int) ∈ (rchV m).1 := by have := gd_mem I.ne; rwa [I.s0] at this
    have i0 : (rchV m).1.idxOf 0 = 0 := by have := idx_at I.nd I.ne; rwa [I.s0] at this
    obtain ⟨_, _, _, hwd⟩ := word_of_chk hw
    have := goV_can F.r w 0 [] h0 fun x hx => by
      obtain ⟨p, hp, rfl⟩ := mem_gd hx
      exact hwd p hp
    rw [i0] at this
    show ((goV (canM m) (((0 : Nat) : Int)) w []).2, _) = _
    rw [this]
  · rw [fromV_word h (Int.le_refl _) (by omega) hw, fromV_word hc (Int.le_refl _) (by omega) hw]; rfl

/-- Fuel that is enough is enough. -/
theorem rch_more {m : Mc} (R : Right m) : ∀ (f g i x : Nat) (S : List Int) (V : List (List Int)), RInv m i x S V → need m i x ≤ f → need m i x ≤ g → rch m f i x S V = rch m g i x S V
  | 0, g, i, x, S, V, h, hf, hg => by
    have hs := h.size R
    have hi : ¬ i < S.length := fun hi => by
      by_cases hx : (x : Int) < m.k
      · obtain ⟨g, e, _⟩ := need_sym (by omega) hx hf
        omega
      · have := h.xl
        obtain ⟨g, e, _⟩ := need_row (by omega) (by omega) hf
        omega
    rw [rch_end hi, rch_end hi]
  | f + 1, g, i, x, S, V, h, hf, hg => by
    have hs := h.size R
    by_cases hi : i < S.length
    · by_cases hx : (x : Int) < m.k
      · obtain ⟨f', e, hf'⟩ := need_sym (by omega) hx hf
        obtain rfl : f' = f := by omega
        obtain ⟨g', rfl, hg'⟩ := need_sym (by omega) hx hg
        by_cases ht : nxt m (S.getD i 0) x ∈ S
        · rw [rch_old hi hx ht, rch_old hi hx ht]
          exact rch_more R _ _ _ _ _ _ (h.old hi hx ht) hf' hg'
        · rw [rch_new hi hx ht, rch_new hi hx ht]
          exact rch_more R _ _ _ _ _ _ (h.new R hi hx ht) hf' hg'
      · have := h.xl
        obtain ⟨f', e, hf'⟩ := need_row (by omega) (by omega) hf
        obtain rfl : f' = f := by omega
        obtain ⟨g', rfl, hg'⟩ := need_row (by omega) (by omega) hg
        rw [rch_row hi hx, rch_row hi hx]
        exact rch_more R _ _ _ _ _ _ (h.row hi hx R.k0) hf' hg'
    · rw [rch_end hi, rch_end hi]
theorem rchV_of {m : Mc} (R : Right m) {f : Nat} (hf : need m 0 0 ≤ f) : rchV m = rch m f 0 0 [0] [[]] := rch_more R _ _ _ _ _ _ (RInv.start R) (Nat.le_refl _) hf

theorem gd_map {S : List Int} {f : Int → Int} {i : Nat} (h : i < S.length) : (S.map f).getD i 0 = f (S.getD i 0) := by
  simp [List.getD, h]
/-- A machine by other numbers is gone through alike. -/
theorem rch_map {m m' : Mc} {f : Int → Int} {T : List Int} (hk : m'.k = m.k) (hT : ∀ s ∈ T, ∀ x : Nat, (x : Int) < m.k → nxt m s x ∈ T ∧ nxt m' (f s) x = f (nxt m s x)) (hf : ∀ s ∈ T, ∀ t ∈ T, f s = f t → s = t) :
    ∀ (F i x : Nat) (S : List Int) (V : List (List Int)), (∀ s ∈ S, s ∈ T) → rch m' F i x (S.map f) V = ((rch m F i x S V).1.map f, (rch m F i x S V).2)
  | 0, i, x, S, V, _ => rfl
  | F + 1, i, x, S, V, hS => by
    by_cases hi : i < S.length
    · have hi' : i < (S.map f).length := by rw [List.length_map]; exact hi
      by_cases hx : (x : Int) < m.k
      · have hx' : (x : Int) < m'.k := by rw [hk]; exact hx
        have hs := hS _ (gd_mem hi)
        obtain ⟨h1, h2⟩ := hT _ hs x hx
        have h3 : nxt m' ((S.map f).getD i 0) x = f (nxt m (S.getD i 0) x) := by rw [gd_map hi]; exact h2
        by_cases ht : nxt m (S.getD i 0) x ∈ S
        · rw [rch_old hi hx ht, rch_old hi' hx' (by rw [h3]; exact List.mem_map_of_mem ht)]
          exact rch_map hk hT hf F i (x + 1) S V hS
        · have ht' : ¬ nxt m' ((S.map f).getD i 0) x ∈ S.map f := by
            rw [h3, List.mem_map]
            rintro ⟨t, ht1, ht2⟩
            exact ht (hf _ (hS t ht1) _ h1 ht2 ▸ ht1)
          rw [rch_new hi hx ht, rch_new hi' hx' ht', h3]
          have := rch_map hk hT hf F i (x + 1) (S ++ [nxt m (S.getD i 0) x]) (V ++ [V.getD i [] ++ [(x : Int)]]) fun s hs2 => by
            rw [List.mem_append, List.mem_singleton] at hs2
            rcases hs2 with hs2 | rfl
            · exact hS s hs2
            · exact h1
          rw [List.map_append] at this
          exact this
      · rw [rch_row hi hx, rch_row hi' (by rw [hk]; exact hx)]
        exact rch_map hk hT hf F (i + 1) 0 S V hS
    · rw [rch_end hi, rch_end (by rw [List.length_map]; exact hi)]
theorem rchV_map {m m' : Mc} {f : Int → Int} (R : Right m) (R' : Right m') (hk : m'.k = m.k) (h0 : f 0 = 0) (hn : ∀ s ∈ (rchV m).1, ∀ x : Nat, (x : Int) < m.k → nxt m' (f s) x = f (nxt m s x)) (hf : ∀ s ∈ (rchV m).1, ∀ t ∈ (rchV m).1, f s = f t → s = t) :
    rchV m' = ((rchV m).1.map f, (rchV m).2) := by
  have I := rchV_inv R
  have h0m : (0 : Int) ∈ (rchV m).1 := by have := gd_mem I.ne; rwa [I.s0] at this
  have e1 := rchV_of R (f := max (need m 0 0) (need m' 0 0)) (Nat.le_max_left _ _)
  have e2 := rchV_of R' (f := max (need m 0 0) (need m' 0 0)) (Nat.le_max_right _ _)
  have := rch_map (T := (rchV m).1) hk (fun s hs x hx => ⟨rch_closed R hs hx, hn s hs x hx⟩) hf (max (need m 0 0) (need m' 0 0)) 0 0 [0] [[]] fun s hs => by
    rw [List.mem_singleton] at hs; rw [hs]; exact h0m
  rw [List.map_singleton, h0] at this
  rw [e2, this, ← e1]

theorem idx_map {f : Int → Int} : ∀ (S : List Int) (t : Int), t ∈ S → (∀ s ∈ S, f s = f t → s = t) → (S.map f).idxOf (f t) = S.idxOf t
  | [], t, h, _ => by simp at h
  | s :: S, t, h, hf => by
    by_cases e : s = t
    · subst e; simp
    · have e2 : f s ≠ f t := fun e3 => e (hf s (by simp) e3)
      have h' : t ∈ S := by rcases List.mem_cons.1 h with h | h; { exact absurd h.symm e }; exact h
      have := idx_map S t h' fun s hs => hf s (by simp [hs])
      simp only [List.map_cons, List.idxOf_cons]
      rw [beq_false_of_ne e, beq_false_of_ne e2]
      simp only [cond_false]
      rw [this]
/-- Numbers play no part. -/
theorem canM_ren {m m' : Mc} {f : Int → Int} (R : Right m) (R' : Right m') (hkd : m'.kind = m.kind) (hk : m'.k = m.k) (ho : m'.o = m.o) (h0 : f 0 = 0) (hn : ∀ s ∈ (rchV m).1, ∀ x : Nat, (x : Int) < m.k → nxt m' (f s) x = f (nxt m s x))
    (hO : ∀ s ∈ (rchV m).1, rowO m' (f s) (pp m') = rowO m s (pp m)) (hf : ∀ s ∈ (rchV m).1, ∀ t ∈ (rchV m).1, f s = f t → s = t) : canM m' = canM m := by
  have e := rchV_map R R' hk h0 hn hf
  have e1 : (rchV m').1 = (rchV m).1.map f := by rw [e]
  have hcl := fun s hs x hx => rch_closed R (s := s) hs (x := x) hx
  generalize hS : (rchV m).1 = S at *
  have N : nxR m' (fun t => ((S.map f).idxOf t : Nat)) (S.map f) = nxR m (fun t => (S.idxOf t : Nat)) S := by
    unfold nxR
    rw [List.flatMap_map]
    have hr : ∀ s ∈ S, rowN m' (fun t => ((S.map f).idxOf t : Nat)) (f s) m'.k.toNat = rowN m (fun t => (S.idxOf t : Nat)) s m.k.toNat := fun s hs => by
      rw [hk]
      unfold rowN
      apply List.map_congr_left
      intro y hy
      rw [List.mem_range] at hy
      have hy' : (y : Int) < m.k := by omega
      show (((S.map f).idxOf (nxt m' (f s) y) : Nat) : Int) = ((S.idxOf (nxt m s y) : Nat) : Int)
      rw [hn s hs y hy', idx_map S _ (hcl s hs y hy') fun t ht e => hf t ht _ (hcl s hs y hy') e]
    have hg : ∀ (L : List Int), (∀ s ∈ L, s ∈ S) → L.flatMap (fun s => rowN m' (fun t => ((S.map f).idxOf t : Nat)) (f s) m'.k.toNat) = L.flatMap (fun s => rowN m (fun t => (S.idxOf t : Nat)) s m.k.toNat) := fun L hL => by
      induction L with
      | nil => rfl
      | cons s L ih => rw [List.flatMap_cons, List.flatMap_cons, hr s (hL s (by simp)), ih fun t ht => hL t (by simp [ht])]
    exact hg S fun s hs => hs
  have O : ouR m' (S.map f) = ouR m S := by
    unfold ouR
    rw [List.flatMap_map]
    have hg : ∀ (L : List Int), (∀ s ∈ L, s ∈ S) → L.flatMap (fun s => rowO m' (f s) (pp m')) = L.flatMap (fun s => rowO m s (pp m)) := fun L hL => by
      induction L with
      | nil => rfl
      | cons s L ih => rw [List.flatMap_cons, List.flatMap_cons, hO s (hL s (by simp)), ih fun t ht => hL t (by simp [ht])]
    exact hg S fun s hs => hs
  unfold canM
  rw [e1, hS]
  unfold pickV
  rw [N, O, hkd, hk, ho, List.length_map]
theorem can_can {m : Mc} (F : Full m) : canM (canM m) = canM m := by
  have R := F.r
  have I := rchV_inv R
  refine canM_ren (f := fun t => ((rchV m).1.idxOf t : Nat)) R (full_can F).r rfl rfl rfl ?_ (fun s hs x hx => nxt_can R hs hx) (fun s hs => ?_) fun s hs t ht e => ?_
  · have := idx_at I.nd I.ne
    rw [I.s0] at this
    show (((rchV m).1.idxOf 0 : Nat) : Int) = 0
    rw [this]; rfl
  · obtain ⟨h1, h2⟩ := idx_get hs
    have := rowO_pick (m := m) (S := (rchV m).1) (f := fun t => (((rchV m).1.idxOf t : Nat) : Int)) h1
    rw [h2] at this
    exact this
  · have e2 : (rchV m).1.idxOf s = (rchV m).1.idxOf t := by
      have : (((rchV m).1.idxOf s : Nat) : Int) = (((rchV m).1.idxOf t : Nat) : Int) := e
      omega
    have h1 := (idx_get hs).2
    rw [e2, (idx_get ht).2] at h1
    exact h1.symm
theorem can_tur {m : Mc} (F : Full m) {p : List Int} (hp : IsP p m.n) : canM (turM m p) = canM m := by
  have R := F.r
  have I := rchV_inv R
  have n0 := R.n0
  have hrg : ∀ s ∈ (rchV m).1, 0 ≤ s ∧ s < m.n := fun s hs => by
    obtain ⟨q, hq, rfl⟩ := mem_gd hs
    exact I.rng q hq
  have hl := hp.1
  have hid : ∀ s ∈ (rchV m).1, ∃ i : Nat, p.getD s.toNat 0 = (i : Int) ∧ i < (ordP p).length ∧ (ordP p).getD i 0 = s := fun s hs => by
    have h1 := hrg s hs
    obtain ⟨h2, h3⟩ := ordP_idx hp h1.1 h1.2
    obtain ⟨h4, h5⟩ := idx_get h3
    exact ⟨_, h2.symm, h4, h5⟩
  refine canM_ren (f := fun t => p.getD t.toNat 0) R (full_tur F hp).r rfl rfl rfl hp.2.1 (fun s hs x hx => ?_) (fun s hs => ?_) fun s hs t ht e => ?_
  · obtain ⟨i, e1, h2, h3⟩ := hid s hs
    have h4 := nxt_range R (hrg s hs).1 (hrg s hs).2 hx
    show nxt (turM m p) (p.getD s.toNat 0) x = p.getD (nxt m s x).toNat 0
    rw [e1]
    unfold turM
    rw [nxt_pick R.k0 h2 hx, h3]
    exact (ordP_idx hp h4.1 h4.2).1
  · obtain ⟨i, e1, h2, h3⟩ := hid s hs
    have := rowO_pick (m := m) (S := ordP p) (f := fun t => (((ordP p).idxOf t : Nat) : Int)) h2
    rw [h3] at this
    show rowO (turM m p) (p.getD s.toNat 0) _ = _
    rw [e1]; exact this
  · have h1 := hrg s hs
    have h2 := hrg t ht
    have h3 := hp.inj (a := s.toNat) (b := t.toNat) (by omega) (by omega) e
    omega

end Go.Proofs.Ytnakadlhafggkaa
