/-
  Lists in which each of 0 to n - 1 stands once, in plain words: where each number stands.
-/
import Derived.Test.YtdlcbjbcehpooaaTPick
namespace Go.Proofs.Ytdlcbjbcehpooaa
open Go.RowKit

theorem cover_le : ∀ (n : Nat) (l : List Int), (∀ i : Nat, i < n → (i : Int) ∈ l) → n ≤ l.length
  | 0, _, _ => Nat.zero_le _
  | n + 1, l, h => by
    have hm := h n (Nat.lt_succ_self _)
    have h1 := cover_le n (l.erase (n : Int)) fun i hi => (List.mem_erase_of_ne (by omega)).2 (h i (by omega))
    rw [List.length_erase_of_mem hm] at h1
    have : 0 < l.length := List.length_pos_of_mem hm
    omega
/-- p has n numbers, 0 first, and each of 0 to n - 1 is there. -/
def IsP (p : List Int) (n : Int) : Prop := (p.length : Int) = n ∧ p.getD 0 0 = 0 ∧ ∀ i : Nat, (i : Int) < n → (i : Int) ∈ p
theorem cover_inj {p : List Int} (h : ∀ i : Nat, i < p.length → (i : Int) ∈ p) {a b : Nat} (ha : a < b) (hb : b < p.length) : p.getD a 0 ≠ p.getD b 0 := fun e => by
  have h1 := cover_le p.length (p.eraseIdx b) fun i hi => by
    obtain ⟨c, hc, ec⟩ := mem_gd (h i hi)
    rw [List.mem_eraseIdx_iff_getElem?]
    by_cases hcb : c = b
    · refine ⟨a, by omega, ?_⟩
      rw [List.getElem?_eq_getElem (by omega)]
      rw [hcb, ← e, List.getD, List.getElem?_eq_getElem (by omega)] at ec
      simpa using ec
    · refine ⟨c, hcb, ?_⟩
      rw [List.getElem?_eq_getElem hc]
      rw [List.getD, List.getElem?_eq_getElem hc] at ec
      simpa using ec
  rw [List.length_eraseIdx_of_lt hb] at h1
  omega
theorem IsP.inj {p : List Int} {n : Int} (h : IsP p n) {a b : Nat} (ha : a < p.length) (hb : b < p.length) (e : p.getD a 0 = p.getD b 0) : a = b := by
  have hc : ∀ i : Nat, i < p.length → (i : Int) ∈ p := fun i hi => h.2.2 i (by have := h.1; omega)
  rcases Nat.lt_trichotomy a b with h1 | h1 | h1
  · exact absurd e (cover_inj hc h1 hb)
  · exact h1
  · exact absurd e.symm (cover_inj hc h1 ha)
/-- S: which one has the number q. -/
structure Inv (p S : List Int) : Prop where
  rng : ∀ q, q < S.length → 0 ≤ S.getD q 0 ∧ S.getD q 0 < p.length
  at_ : ∀ q, q < S.length → p.getD (S.getD q 0).toNat 0 = (q : Int)
theorem Inv.nil (p : List Int) : Inv p [] := ⟨fun q h => by simp at h, fun q h => by simp at h⟩
theorem Inv.snoc {p S : List Int} (h : Inv p S) {s : Nat} (hs : s < p.length) (e : p.getD s 0 = (S.length : Int)) : Inv p (S ++ [(s : Int)]) := by
  refine ⟨fun q hq => ?_, fun q hq => ?_⟩
  all_goals
    rw [List.length_append, List.length_singleton] at hq
    by_cases c : q = S.length
    · subst c
      rw [gd_mid]
      first | exact ⟨by omega, by omega⟩ | (rw [Int.toNat_natCast]; exact e)
    · rw [gd_left 0 (by omega)]
      first | exact h.rng q (by omega) | exact h.at_ q (by omega)
theorem Inv.new {p S : List Int} (h : Inv p S) {s : Nat} (e : p.getD s 0 = (S.length : Int)) : ¬ (s : Int) ∈ S := fun hm => by
  obtain ⟨q, hq, eq⟩ := mem_gd hm
  have := h.at_ q hq
  rw [eq, Int.toNat_natCast, e] at this
  omega
theorem Inv.nodup {p S : List Int} (h : Inv p S) : S.Nodup := by
  rw [List.Nodup, List.pairwise_iff_getElem]
  intro i j hi hj hij e
  have h1 := h.at_ i hi
  have h2 := h.at_ j hj
  have e' : S.getD i 0 = S.getD j 0 := by simp only [List.getD, List.getElem?_eq_getElem hi, List.getElem?_eq_getElem hj, Option.getD_some]; exact e
  rw [e'] at h1
  omega
/-- Which one has each number. -/
def ordP (p : List Int) : List Int := (List.range p.length).map fun i : Nat => ((p.idxOf (i : Int) : Nat) : Int)
theorem ordP_len (p : List Int) : (ordP p).length = p.length := by simp [ordP]
theorem ordP_inv {p : List Int} {n : Int} (h : IsP p n) : Inv p (ordP p) := by
  have hg : ∀ q, q < p.length → (ordP p).getD q 0 = ((p.idxOf (q : Int) : Nat) : Int) := fun q hq => by
    unfold ordP
    simp only [List.getD, List.getElem?_map, List.getElem?_range hq, Option.map_some, Option.getD_some]
  have hi : ∀ q, q < p.length → p.idxOf (q : Int) < p.length := fun q hq => List.idxOf_lt_length_iff.2 (h.2.2 q (by have := h.1; omega))
  refine ⟨fun q hq => ?_, fun q hq => ?_⟩
  · rw [ordP_len] at hq
    rw [hg q hq]; have := hi q hq; omega
  · rw [ordP_len] at hq
    rw [hg q hq, Int.toNat_natCast]
    have h1 := hi q hq
    rw [List.getD, List.getElem?_eq_getElem h1, Option.getD_some]
    exact List.getElem_idxOf h1
/-- There is but one. -/
theorem Inv.one {p S : List Int} {n : Int} (h : IsP p n) (i : Inv p S) (hl : S.length = p.length) : S = ordP p := by
  have j := ordP_inv h
  refine List.ext_getElem (by rw [hl, ordP_len]) fun q h1 h2 => ?_
  have a1 := i.rng q h1
  have b1 := i.at_ q h1
  have a2 := j.rng q h2
  have b2 := j.at_ q h2
  have e := h.inj (a := (S.getD q 0).toNat) (b := ((ordP p).getD q 0).toNat) (by omega) (by omega) (by rw [b1, b2])
  have e2 : S.getD q 0 = (ordP p).getD q 0 := by omega
  simpa only [List.getD, List.getElem?_eq_getElem h1, List.getElem?_eq_getElem h2, Option.getD_some] using e2
theorem Inv.isP {p S : List Int} {n : Int} (i : Inv p S) (hl : (p.length : Int) = n) (h0 : p.getD 0 0 = 0) (hS : (S.length : Int) = n) : IsP p n :=
  ⟨hl, h0, fun q hq => by
    have h1 := i.rng q (by omega)
    have h2 := i.at_ q (by omega)
    rw [← h2]
    exact gd_mem (by omega)⟩
/-- A number is its place. -/
theorem ordP_idx {p : List Int} {n : Int} (h : IsP p n) {t : Int} (t0 : 0 ≤ t) (t1 : t < n) : (((ordP p).idxOf t : Nat) : Int) = p.getD t.toNat 0 ∧ t ∈ ordP p := by
  have i := ordP_inv h
  have hl := h.1
  have hm : t ∈ ordP p := by
    refine all_mem (n := n) i.nodup (fun q hq => ?_) (by rw [ordP_len]; exact hl) t0 t1
    have := i.rng q hq; omega
  refine ⟨?_, hm⟩
  have h1 := List.idxOf_lt_length_iff.2 hm
  have h2 := i.at_ _ h1
  have h3 : (ordP p).getD ((ordP p).idxOf t) 0 = t := by
    rw [List.getD, List.getElem?_eq_getElem h1, Option.getD_some]; exact List.getElem_idxOf h1
  rw [h3] at h2
  exact h2.symm

/-- Turn, as the document has it. -/
def turM (m : Mc) (p : List Int) : Mc := pickV m (ordP p) fun t => ((ordP p).idxOf t : Nat)

end Go.Proofs.Ytdlcbjbcehpooaa
