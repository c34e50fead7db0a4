/-
  What is said stays, numbers play no part: machines whose states have other numbers, in plain words.
-/
import Derived.Test.YtdlcbjbcehpooaaTPerm
import Derived.Test.YtdlcbjbcehpooaaJMath
import Derived.Test.YtdlcbjbcehpooaaTWords
namespace Go.Proofs.Ytdlcbjbcehpooaa
open Go.RowKit

theorem flat_get {row : Int → List Int} {K : Nat} (hr : ∀ s, (row s).length = K) : ∀ (S : List Int) (i x : Nat), i < S.length → x < K → (S.flatMap row).getD (i * K + x) 0 = (row (S.getD i 0)).getD x 0
  | [], i, x, h, _ => by simp at h
  | s :: S, 0, x, _, hx => by
    rw [List.flatMap_cons, Nat.zero_mul, Nat.zero_add, gd_left 0 (by rw [hr]; exact hx)]
    rfl
  | s :: S, i + 1, x, h, hx => by
    have ih := flat_get hr S i x (by simpa using h) hx
    have e : (i + 1) * K + x = (row s).length + (i * K + x) := by rw [hr, Nat.add_mul, Nat.one_mul]; omega
    rw [List.flatMap_cons, e]
    have e2 : (row s ++ S.flatMap row).getD ((row s).length + (i * K + x)) 0 = (S.flatMap row).getD (i * K + x) 0 := by
      simp only [List.getD]
      rw [List.getElem?_append_right (by omega)]
      congr 2
      omega
    rw [e2, ih]
    rfl
theorem rowN_get (m : Mc) (f : Int → Int) (s : Int) {n x : Nat} (h : x < n) : (rowN m f s n).getD x 0 = f (nxt m s (x : Int)) := by
  unfold rowN
  simp only [List.getD, List.getElem?_map, List.getElem?_range h, Option.map_some, Option.getD_some]
theorem rowO_get (m : Mc) (s : Int) {n x : Nat} (h : x < n) : (rowO m s n).getD x 0 = m.out.getD (s * (pp m : Int) + (x : Int)).toNat 0 := by
  unfold rowO
  simp only [List.getD, List.getElem?_map, List.getElem?_range h, Option.map_some, Option.getD_some]
theorem nxt_pick {m : Mc} (k0 : 1 ≤ m.k) {S : List Int} {f : Int → Int} {i x : Nat} (hi : i < S.length) (hx : (x : Int) < m.k) : nxt (pickV m S f) (i : Int) (x : Int) = f (nxt m (S.getD i 0) x) := by
  have e : ((i : Int) * m.k + (x : Int)).toNat = i * m.k.toNat + x := by
    have : ((i * m.k.toNat : Nat) : Int) = (i : Int) * m.k := by rw [Int.natCast_mul, Int.toNat_of_nonneg (by omega)]
    omega
  show (nxR m f S).getD ((i : Int) * m.k + (x : Int)).toNat 0 = _
  rw [e]
  unfold nxR
  rw [flat_get (K := m.k.toNat) (fun s => rowN_len _ _ _ _) S i x hi (by omega), rowN_get _ _ _ (by omega)]
theorem out_pick {m : Mc} {S : List Int} {f : Int → Int} {i x : Nat} (hi : i < S.length) (hx : x < pp m) : (pickV m S f).out.getD ((i : Int) * (pp m : Int) + (x : Int)).toNat 0 = m.out.getD (S.getD i 0 * (pp m : Int) + (x : Int)).toNat 0 := by
  have e : ((i : Int) * (pp m : Int) + (x : Int)).toNat = i * pp m + x := by
    have : ((i * pp m : Nat) : Int) = (i : Int) * (pp m : Int) := Int.natCast_mul _ _
    omega
  show (ouR m S).getD _ 0 = _
  rw [e]
  unfold ouR
  rw [flat_get (K := pp m) (fun s => rowO_len _ _ _) S i x hi hx, rowO_get _ _ hx]
theorem pp_pick (m : Mc) (S : List Int) (f : Int → Int) : pp (pickV m S f) = pp m := rfl
theorem rowO_pick {m : Mc} {S : List Int} {f : Int → Int} {i : Nat} (hi : i < S.length) : rowO (pickV m S f) (i : Int) (pp (pickV m S f)) = rowO m (S.getD i 0) (pp m) := by
  rw [pp_pick]
  unfold rowO
  apply List.map_congr_left
  intro x hx
  rw [List.mem_range] at hx
  rw [pp_pick]
  exact out_pick hi hx

/-- What Check lets pass, with the bounds of O. -/
structure Full (m : Mc) : Prop where
  r : Right m
  od : m.kind = 1 → m.o = 2
  o0 : 1 ≤ m.o
  o1 : m.o ≤ 64
theorem full_of {m : Mc} (h : (mchV m).2 = 0) : Full m := by
  have R := right_of h
  unfold mchV at h
  by_cases hk : m.kind = 1
  · rw [if_pos hk] at h
    rcases szV_cases m 2 2 1 with ⟨_, s⟩ | ⟨hz, _, _⟩
    · have := s.o0; have := s.o1
      exact ⟨R, fun _ => by omega, by omega, by omega⟩
    · rw [if_neg hz] at h; exact absurd h hz
  · rw [if_neg hk] at h
    by_cases hk2 : m.kind = 2
    · rw [if_pos hk2] at h
      rcases szV_cases m 1 64 m.k with ⟨_, s⟩ | ⟨hz, _, _⟩
      · exact ⟨R, fun h => absurd h hk, s.o0, s.o1⟩
      · rw [if_neg hz] at h; exact absurd h hz
    · rw [if_neg hk2] at h; cases h
theorem mch_full {m : Mc} (h : Full m) : (mchV m).2 = 0 := by
  have R := h.r
  have e1 : bdAt m.nx m.n = none := bdAt_none fun i hi => bad_no (R.st i hi).1 (R.st i hi).2
  have e2 : bdAt m.out m.o = none := bdAt_none fun i hi => bad_no (R.so i hi).1 (R.so i hi).2
  have e3 := enV_ok e1 e2
  unfold mchV
  rcases R.kd with hk | hk
  · rw [if_pos hk, szV_ok R.k0 R.k1 (by rw [h.od hk]; decide) (by rw [h.od hk]; decide) R.n0 R.n1 R.nx (by rw [R.outD hk]; omega), if_pos rfl, e3]
  · rw [if_neg (by omega), if_pos hk, szV_ok R.k0 R.k1 h.o0 h.o1 R.n0 R.n1 R.nx (R.outM hk), if_pos rfl, e3]
/-- A machine of some states, all ways among them, is one. -/
theorem full_pick {m : Mc} (h : Full m) {S : List Int} {f : Int → Int} (hl : S.length ≤ 1024) (hp : 0 < S.length) (hr : ∀ p, p < S.length → 0 ≤ S.getD p 0 ∧ S.getD p 0 < m.n) (hf : ∀ p, p < S.length → ∀ y : Nat, (y : Int) < m.k → 0 ≤ f (nxt m (S.getD p 0) y) ∧ f (nxt m (S.getD p 0) y) < S.length) : Full (pickV m S f) := by
  have R := h.r
  have k0 := R.k0
  have hpp := pp_le R
  have ln : ((nxR m f S).length : Int) = (S.length : Int) * m.k := by rw [nxR_len, Int.natCast_mul, Int.toNat_of_nonneg (by omega)]
  have lo : ((ouR m S).length : Int) = (S.length : Int) * (pp m : Int) := by rw [ouR_len, Int.natCast_mul]
  refine ⟨⟨R.kd, R.k0, R.k1, ?_, ?_, ln, fun hk => ?_, fun hk => ?_, fun j hj => ?_, fun j hj => ?_⟩, h.od, h.o0, h.o1⟩
  · show 1 ≤ (S.length : Int); omega
  · show (S.length : Int) ≤ 1024; omega
  · show ((ouR m S).length : Int) = (S.length : Int)
    have hk' : m.kind = 1 := hk
    rw [lo]; unfold pp; rw [if_pos hk']; omega
  · show ((ouR m S).length : Int) = (S.length : Int) * m.k
    have hk' : m.kind = 2 := hk
    rw [lo]; unfold pp; rw [if_neg (by omega), Int.toNat_of_nonneg (by omega)]
  · have hj' : j < S.length * m.k.toNat := by rw [← nxR_len m f S]; exact hj
    have hd : j / m.k.toNat < S.length := Nat.div_lt_of_lt_mul (by rw [Nat.mul_comm]; exact hj')
    have hm : j % m.k.toNat < m.k.toNat := Nat.mod_lt _ (by omega)
    have e : j = j / m.k.toNat * m.k.toNat + j % m.k.toNat := by rw [Nat.mul_comm]; exact (Nat.div_add_mod _ _).symm
    have h1 := hf _ hd (j % m.k.toNat) (by omega)
    show 0 ≤ (nxR m f S).getD j 0 ∧ (nxR m f S).getD j 0 < (S.length : Int)
    have h2 : (nxR m f S).getD j 0 = f (nxt m (S.getD (j / m.k.toNat) 0) ((j % m.k.toNat : Nat) : Int)) := by
      conv => lhs; rw [e]
      unfold nxR
      rw [flat_get (K := m.k.toNat) (fun s => rowN_len _ _ _ _) S _ _ hd hm, rowN_get _ _ _ hm]
    rw [h2]; exact h1
  · have hj' : j < S.length * pp m := by rw [← ouR_len m S]; exact hj
    have hd : j / pp m < S.length := Nat.div_lt_of_lt_mul (by rw [Nat.mul_comm]; exact hj')
    have hm : j % pp m < pp m := Nat.mod_lt _ (by omega)
    have e : j = j / pp m * pp m + j % pp m := by rw [Nat.mul_comm]; exact (Nat.div_add_mod _ _).symm
    have hr1 := hr _ hd
    obtain ⟨Q, q1, q2, q3, _⟩ := said_of R hr1.1 hr1.2
    show 0 ≤ (ouR m S).getD j 0 ∧ (ouR m S).getD j 0 < m.o
    have h2 : (ouR m S).getD j 0 = m.out.getD (Q + j % pp m) 0 := by
      conv => lhs; rw [e]
      unfold ouR
      rw [flat_get (K := pp m) (fun s => rowO_len _ _ _) S _ _ hd hm, rowO_get _ _ hm, q1]
      congr 1
    rw [h2]
    exact R.so _ (by omega)

/-- What can be come to is closed. -/
theorem rch_closed {m : Mc} (R : Right m) {s : Int} (hs : s ∈ (rchV m).1) {x : Nat} (hx : (x : Int) < m.k) : nxt m s x ∈ (rchV m).1 := by
  have I := rchV_inv R
  obtain ⟨p, hp, rfl⟩ := mem_gd hs
  obtain ⟨q, hq, e, _⟩ := I.cov p x (.inl ⟨hp, hx⟩) hp
  rw [← e]; exact gd_mem hq
theorem rch_len {m : Mc} (R : Right m) : (rchV m).1.length ≤ 1024 ∧ ((rchV m).1.length : Int) ≤ m.n := by
  have := (rchV_inv R).size R
  have := R.n1
  have := R.n0
  omega
theorem full_can {m : Mc} (h : Full m) : Full (canM m) := by
  have I := rchV_inv h.r
  refine full_pick h (rch_len h.r).1 I.ne I.rng fun p hp y hy => ?_
  have h1 := rch_closed h.r (gd_mem hp) hy
  have := List.idxOf_lt_length_iff.2 h1
  omega
theorem full_tur {m : Mc} (h : Full m) {p : List Int} (hp : IsP p m.n) : Full (turM m p) := by
  have R := h.r
  have n0 := R.n0
  have n1 := R.n1
  have hl := hp.1
  have i := ordP_inv hp
  have e := ordP_len p
  refine full_pick h (by omega) (by omega) (fun q hq => ?_) fun q hq y hy => ?_
  · have := i.rng q hq; omega
  · have hr := i.rng q hq
    have h1 := nxt_range R (s := (ordP p).getD q 0) (by omega) (by omega) hy
    have := List.idxOf_lt_length_iff.2 (ordP_idx hp h1.1 h1.2).2
    omega

end Go.Proofs.Ytdlcbjbcehpooaa
