/-
  Some texts of this seat, one behind the other.
-/
import Derived.Test.YtepmdnggiajkbaaK2
import Derived.Test.YtepmdnggiajkbaaK34
import Derived.Test.YtepmdnggiajkbaaK35
import Derived.Test.YtepmdnggiajkbaaK36
import Derived.Test.YtepmdnggiajkbaaK7
import Derived.Test.YtepmdnggiajkbaaK8
/-
  Tables in plain words: the machine of the rows, those that are alike being one.
-/
namespace Go.Proofs.Ytepmdnggiajkbaa
set_option linter.unusedVariables false

def Rl (t : Tb) (i j : Nat) : Bool := alkT t (t.rw i) (t.rw j)
theorem alkT_symm {t : Tb} {u v : List Int} (h : alkT t u v = true) : alkT t v u = true := alkT_iff.2 fun k hk => (alkT_iff.1 h k hk).symm
theorem alkT_trans {t : Tb} {u v x : List Int} (h : alkT t u v = true) (g : alkT t v x = true) : alkT t u x = true := alkT_iff.2 fun k hk => (alkT_iff.1 h k hk).trans (alkT_iff.1 g k hk)
theorem rl_eqv (t : Tb) (N : Nat) : Eqv (Rl t) N := ⟨fun s _ => alkT_refl t _, fun _ _ _ _ h => alkT_symm h, fun _ _ _ _ _ _ h g => alkT_trans h g⟩
/-- What holds of a table that calls have made. -/
structure Tok (t : Tb) : Prop where
  kd : t.kind = 1 ∨ t.kind = 2
  k0 : 1 ≤ t.k
  k1 : t.k ≤ 64
  o0 : 1 ≤ t.o
  o1 : t.o ≤ 64
  od : t.kind = 1 → t.o = 2
  ln : t.os.length = t.ws.length
  ok : ∀ i, i < t.ws.length → (t.kind = 1 → (t.os.getD i []).length = 1) ∧ (t.kind = 2 → (t.os.getD i []).length = (t.ws.getD i []).length) ∧ ∀ y ∈ t.os.getD i [], 0 ≤ y ∧ y < t.o
  cs : ∃ L, t.cols = tnC t.kind t.k ++ L
  r0 : 0 < t.rows.length
  r1 : t.rows.length ≤ 1024
  rl : ∀ r ∈ t.rows, r.length ≤ 1024
section
variable {t : Tb}
theorem Tok.cell (T : Tok t) (hm : misT t = none) {u e : List Int} (hu : u ∈ allT t) (he : e ∈ t.cols) (hl : (u ++ e).length ≤ 4096) :
    (t.kind = 1 → (celV t u e).length = 1) ∧ (t.kind = 2 → (celV t u e).length = e.length) ∧ ∀ y ∈ celV t u e, 0 ≤ y ∧ y < t.o := by
  have hw := misT_none.1 hm u hu e he hl
  obtain ⟨i, h1, h2, h3⟩ := plcO_is hw
  obtain ⟨a, b, c⟩ := T.ok i h2
  have h4 : t.ws.getD i [] = u ++ e := by rw [List.getD_eq_getElem?_getD, List.getElem?_eq_getElem h2]; exact h3
  rw [h4, List.length_append] at b
  have hc : celV t u e = if t.kind = 2 then (t.os.getD i []).drop ((t.os.getD i []).length - e.length) else t.os.getD i [] := by unfold celV; rw [h1]
  rw [hc]
  refine ⟨fun hk => by rw [if_neg (by omega)]; exact a hk, fun hk => by rw [if_pos hk, List.length_drop]; have := b hk; omega, fun y hy => ?_⟩
  split at hy
  · exact c y (List.mem_of_mem_drop hy)
  · exact c y hy
theorem Tok.row_mem (T : Tok t) {i : Nat} (hi : i < t.rows.length) : t.rw i ∈ t.rows := by rw [Tb.rw_at hi]; exact List.getElem_mem _
theorem Tok.rowAll (T : Tok t) {i : Nat} (hi : i < t.rows.length) : t.rw i ∈ allT t := by unfold allT; exact List.mem_append.2 (.inl (T.row_mem hi))
theorem Tok.hyO_facts (T : Tok t) (hm : misT t = none) {i : Nat} (hi : i < t.rows.length) : (hyO t t.k.toNat (t.rw i)).length = pp (hypM t) ∧ ∀ y ∈ hyO t t.k.toNat (t.rw i), 0 ≤ y ∧ y < t.o := by
  obtain ⟨L, hcs⟩ := T.cs
  have hr := T.rl _ (T.row_mem hi)
  have hcol : ∀ e ∈ tnC t.kind t.k, e ∈ t.cols := fun e he => by rw [hcs]; exact List.mem_append.2 (.inl he)
  have hcel : ∀ e ∈ tnC t.kind t.k, e.length ≤ 1 → (t.kind = 1 → (celV t (t.rw i) e).length = 1) ∧ (t.kind = 2 → (celV t (t.rw i) e).length = e.length) ∧ ∀ y ∈ celV t (t.rw i) e, 0 ≤ y ∧ y < t.o := fun e he hl => T.cell hm (T.rowAll hi) (hcol e he) (by rw [List.length_append]; omega)
  unfold hyO pp
  show (if t.kind = 1 then _ else _ : List Int).length = (if t.kind = 1 then 1 else t.k.toNat) ∧ _
  by_cases hk : t.kind = 1
  · rw [if_pos hk, if_pos hk]
    have := hcel [] (by unfold tnC; rw [if_pos hk]; simp) (by simp)
    exact ⟨this.1 hk, this.2.2⟩
  · have hk2 : t.kind = 2 := by have := T.kd; omega
    rw [if_neg hk, if_neg hk]
    have hx : ∀ x, x < t.k.toNat → (celV t (t.rw i) [((x : Nat) : Int)]).length = 1 ∧ ∀ y ∈ celV t (t.rw i) [((x : Nat) : Int)], 0 ≤ y ∧ y < t.o := fun x hx => by
      have := hcel [(x : Int)] (by unfold tnC; rw [if_neg hk]; exact List.mem_map.2 ⟨x, List.mem_range.2 hx, rfl⟩) (by simp)
      exact ⟨this.2.1 hk2, this.2.2⟩
    constructor
    · have : ∀ n, n ≤ t.k.toNat → ((List.range n).flatMap fun x : Nat => celV t (t.rw i) [(x : Int)]).length = n := by
        intro n
        induction n with
        | zero => intro _; rfl
        | succ n ih =>
          intro hn
          rw [List.range_succ, List.flatMap_append, List.length_append, ih (by omega)]
          simp [(hx n (by omega)).1]
      exact this _ (Nat.le_refl _)
    · intro y hy
      obtain ⟨x, hx1, hx2⟩ := List.mem_flatMap.1 hy
      exact (hx x (List.mem_range.1 hx1)).2 y hx2
theorem Tok.kn (T : Tok t) : t.k = ((t.k.toNat : Nat) : Int) := by have := T.k0; omega
theorem hyp_out (T : Tok t) (hm : misT t = none) {i : Nat} (hi : i < t.rows.length) : rowO (hypM t) (i : Int) (pp (hypM t)) = hyO t t.k.toNat (t.rw i) := by
  have hl := (T.hyO_facts hm hi).1
  refine List.ext_getElem (by rw [rowO_len, hl]) fun x h1 h2 => ?_
  rw [rowO_len] at h1
  simp only [rowO, List.getElem_map, List.getElem_range]
  have e : ((i : Int) * (pp (hypM t) : Int) + (x : Int)).toNat = i * pp (hypM t) + x := by rw [← Int.natCast_mul]; omega
  rw [e]
  have hgen : ∀ (L : List (List Int)) (k s : Nat), (∀ r ∈ L, (hyO t t.k.toNat r).length = k) → s < L.length → x < k → (L.flatMap (hyO t t.k.toNat)).getD (s * k + x) 0 = (hyO t t.k.toNat (L.getD s [])).getD x 0 := by
    intro L k
    induction L with
    | nil => intro s _ hs; simp at hs
    | cons r L ih =>
      intro s hL hs hx
      have hr := hL r (by simp)
      rw [List.flatMap_cons]
      cases s with
      | zero => rw [Nat.zero_mul, Nat.zero_add, List.getD_eq_getElem?_getD, List.getElem?_append_left (by omega), ← List.getD_eq_getElem?_getD]; rfl
      | succ s =>
        have e2 : (s + 1) * k + x = k + (s * k + x) := by rw [Nat.add_mul]; omega
        rw [e2, List.getD_eq_getElem?_getD, List.getElem?_append_right (by omega), hr, Nat.add_sub_cancel_left, ← List.getD_eq_getElem?_getD]
        exact ih s (fun q hq => hL q (by simp [hq])) (by simpa using hs) hx
  have := hgen t.rows (pp (hypM t)) i (fun r hr => by
    obtain ⟨j, hj, rfl⟩ := List.getElem_of_mem hr
    rw [← Tb.rw_at hj]; exact (T.hyO_facts hm hj).1) hi h1
  show (t.rows.flatMap (hyO t t.k.toNat)).getD (i * pp (hypM t) + x) 0 = _
  rw [this]
  show (hyO t t.k.toNat (t.rw i)).getD x 0 = _
  rw [List.getD_eq_getElem?_getD, List.getElem?_eq_getElem h2]; rfl
/-- Where an edge leads: the first row that it is alike to. -/
theorem rowI_is {u : List Int} (h : ¬ rowI t u < 0) : ∃ j, j < t.rows.length ∧ rowI t u = (j : Int) ∧ alkT t (t.rw j) u = true ∧ ∀ q, q < j → alkT t (t.rw q) u = false := by
  unfold rowI at h ⊢
  cases e : rowO' t u with
  | none => rw [e] at h; exact absurd (by decide) h
  | some j =>
    obtain ⟨h1, h2, h3⟩ := List.findIdx?_eq_some_iff_getElem.1 e
    refine ⟨j, h1, rfl, by rw [Tb.rw_at h1]; exact h2, fun q hq => ?_⟩
    rw [Tb.rw_at (by omega)]
    have := h3 q hq
    simpa using this
theorem opn_none (hm : misT t = none) (ho : opnT t = none) {u : List Int} (hu : u ∈ edgT t) : ¬ rowI t u < 0 := by
  unfold opnT at ho
  rw [hm] at ho
  have hd : (allT t).drop t.rows.length = edgT t := by unfold allT; exact List.drop_left
  rw [hd] at ho
  have := List.find?_eq_none.1 ho u hu
  simpa using this
theorem edge_mem (T : Tok t) {i x : Nat} (hi : i < t.rows.length) (hx : x < t.k.toNat) : t.rw i ++ [(x : Int)] ∈ edgT t := by
  unfold edgT
  exact List.mem_flatMap.2 ⟨t.rw i, T.row_mem hi, List.mem_map.2 ⟨x, List.mem_range.2 hx, rfl⟩⟩
theorem full_hyp (T : Tok t) (hm : misT t = none) (ho : opnT t = none) : Full (hypM t) := by
  have hk := T.kn
  have hlen : ∀ (L : List (List Int)) (k : Nat) (f : List Int → List Int), (∀ r ∈ L, (f r).length = k) → (L.flatMap f).length = L.length * k := by
    intro L k f
    induction L with
    | nil => intro _; simp
    | cons r L ih => intro h; rw [List.flatMap_cons, List.length_append, h r (by simp), ih fun q hq => h q (by simp [hq]), List.length_cons, Nat.add_mul]; omega
  have hout : (hypM t).out.length = t.rows.length * pp (hypM t) := hlen t.rows _ _ fun r hr => by
    obtain ⟨j, hj, rfl⟩ := List.getElem_of_mem hr
    rw [← Tb.rw_at hj]; exact (T.hyO_facts hm hj).1
  have hn : (hypM t).nx.length = t.rows.length * t.k.toNat := hlen t.rows _ _ fun r hr => by simp [hyN]
  refine ⟨⟨T.kd, T.k0, T.k1, by show 1 ≤ (t.rows.length : Int); have := T.r0; omega, by show (t.rows.length : Int) ≤ 1024; have := T.r1; omega, ?_, fun hd => ?_, fun hd => ?_, fun j hj => ?_, fun j hj => ?_⟩, T.od, T.o0, T.o1⟩
  · rw [hn]; show _ = (t.rows.length : Int) * t.k; rw [hk, Int.natCast_mul]; simp
  · rw [hout]; unfold pp; rw [if_pos hd, Nat.mul_one]; rfl
  · rw [hout]; unfold pp; rw [if_neg (by show ¬ t.kind = 1; have : t.kind = 2 := hd; omega)]; show _ = (t.rows.length : Int) * t.k; rw [hk, Int.natCast_mul]; show (t.rows.length : Int) * ((t.k.toNat : Nat) : Int) = _; simp
  · have hmem : (hypM t).nx.getD j 0 ∈ (hypM t).nx := gd_mem hj
    obtain ⟨r, hr, hx⟩ := List.mem_flatMap.1 (show _ ∈ t.rows.flatMap (hyN t t.k.toNat) from hmem)
    obtain ⟨i, hi, rfl⟩ := List.getElem_of_mem hr
    obtain ⟨x, hx1, hx2⟩ := List.mem_map.1 hx
    rw [← Tb.rw_at hi] at hx2
    obtain ⟨q, q1, q2, _⟩ := rowI_is (opn_none hm ho (edge_mem T hi (List.mem_range.1 hx1)))
    rw [← hx2, q2]
    show 0 ≤ (q : Int) ∧ (q : Int) < (t.rows.length : Int)
    omega
  · have hmem : (hypM t).out.getD j 0 ∈ (hypM t).out := gd_mem hj
    obtain ⟨r, hr, hx⟩ := List.mem_flatMap.1 (show _ ∈ t.rows.flatMap (hyO t t.k.toNat) from hmem)
    obtain ⟨i, hi, rfl⟩ := List.getElem_of_mem hr
    rw [← Tb.rw_at hi] at hx
    exact (T.hyO_facts hm hi).2 _ hx
/-- The machine whose states are the rows, those that are alike being one. -/
def prM (t : Tb) : Mc := pickV (hypM t) (reps (Rl t) t.rows.length) fun j => cl (Rl t) j.toNat
theorem reps_zero (T : Tok t) : 0 < (reps (Rl t) t.rows.length).length ∧ (reps (Rl t) t.rows.length).getD 0 0 = 0 := by
  have h := reps_at (R := Rl t) (N := t.rows.length) (r := 0) T.r0 rfl
  refine ⟨?_, h⟩
  rw [reps_len]
  have := nc_rep (R := Rl t) (r := 0) (q := t.rows.length) rfl T.r0
  omega
theorem full_prM (T : Tok t) (hm : misT t = none) (ho : opnT t = none) : Full (prM t) := by
  have F := full_hyp T hm ho
  refine full_pick F (by rw [reps_len]; exact Nat.le_trans (nc_le _ _) T.r1) (reps_zero T).1 (fun p hp => ?_) fun p hp y hy => ?_
  · obtain ⟨r, h1, _, h3, _⟩ := reps_mem hp
    rw [h3]; show 0 ≤ (r : Int) ∧ (r : Int) < (t.rows.length : Int); omega
  · obtain ⟨r, h1, _, h3, _⟩ := reps_mem hp
    rw [h3]
    have hyk : y < t.k.toNat := by have : (y : Int) < t.k := hy; have := T.kn; omega
    have hx := hyp_nx (t := t) T.kn h1 hyk
    rw [hx, ← Tb.rw_at h1]
    obtain ⟨q, q1, q2, _⟩ := rowI_is (opn_none hm ho (edge_mem T h1 hyk))
    rw [q2, Int.toNat_natCast]
    have := cl_range (rl_eqv t t.rows.length) q1
    rw [reps_len]; exact this
theorem can_prM (T : Tok t) (hm : misT t = none) (ho : opnT t = none) : canM (hypM t) = canM (prM t) := by
  have F := full_hyp T hm ho
  have G := full_prM T hm ho
  have hin : ∀ s ∈ (rchV (prM t)).1, ∃ i r : Nat, s = (i : Int) ∧ i < (reps (Rl t) t.rows.length).length ∧ r < t.rows.length ∧ (reps (Rl t) t.rows.length).getD i 0 = (r : Int) ∧ nc (Rl t) r = i := fun s hs => by
    have hr := rch_rng G.r hs
    have hn : (prM t).n = ((reps (Rl t) t.rows.length).length : Int) := rfl
    rw [hn] at hr
    have hi : s.toNat < (reps (Rl t) t.rows.length).length := by omega
    obtain ⟨r, h1, _, h3, h4⟩ := reps_mem hi
    exact ⟨s.toNat, r, by omega, hi, h1, h3, h4⟩
  refine canM_ren (f := fun i => (reps (Rl t) t.rows.length).getD i.toNat 0) G.r F.r rfl rfl rfl (reps_zero T).2 (fun s hs x hx => ?_) (fun s hs => ?_) fun s hs u hu e => ?_
  · obtain ⟨i, r, rfl, hi, hr, e1, e2⟩ := hin s hs
    have hxk : x < t.k.toNat := by have : (x : Int) < t.k := hx; have := T.kn; omega
    have h1 := nxt_pick (m := hypM t) (S := reps (Rl t) t.rows.length) (f := fun j => cl (Rl t) j.toNat) T.k0 hi (x := x) hx
    show nxt (hypM t) ((reps (Rl t) t.rows.length).getD (i : Int).toNat 0) (x : Int) = (reps (Rl t) t.rows.length).getD (nxt (prM t) (i : Int) (x : Int)).toNat 0
    have h1' : nxt (prM t) (i : Int) (x : Int) = cl (Rl t) (nxt (hypM t) ((reps (Rl t) t.rows.length).getD i 0) x).toNat := h1
    rw [h1', Int.toNat_natCast, e1, hyp_nx (t := t) T.kn hr hxk, ← Tb.rw_at hr]
    obtain ⟨q, q1, q2, q3, q4⟩ := rowI_is (opn_none hm ho (edge_mem T hr hxk))
    rw [q2, Int.toNat_natCast]
    obtain ⟨r', a1, a2, a3, a4, a5⟩ := rep_of (rl_eqv t t.rows.length) q1
    have hrq : r' = q := by
      rcases Nat.eq_or_lt_of_le a1 with c | c
      · exact c
      · exfalso
        have h2 : alkT t (t.rw r') (t.rw r ++ [(x : Int)]) = true := alkT_trans (alkT_symm a2) q3
        rw [q4 r' c] at h2; cases h2
    subst hrq
    rw [a4, Int.toNat_natCast]
    exact (reps_at q1 a3).symm
  · obtain ⟨i, r, rfl, hi, hr, e1, e2⟩ := hin s hs
    have := rowO_pick (m := hypM t) (S := reps (Rl t) t.rows.length) (f := fun j => cl (Rl t) j.toNat) hi
    show rowO (hypM t) ((reps (Rl t) t.rows.length).getD (i : Int).toNat 0) (pp (hypM t)) = rowO (prM t) (i : Int) (pp (prM t))
    rw [Int.toNat_natCast]
    exact this.symm
  · obtain ⟨i, r, rfl, hi, hr, e1, e2⟩ := hin s hs
    obtain ⟨j, r', rfl, hj, hr', e1', e2'⟩ := hin u hu
    have e' : (reps (Rl t) t.rows.length).getD (i : Int).toNat 0 = (reps (Rl t) t.rows.length).getD (j : Int).toNat 0 := e
    rw [Int.toNat_natCast, Int.toNat_natCast, e1, e1'] at e'
    have : r = r' := by omega
    subst this
    omega
/-- Canon of it is what the document asks. -/
theorem cn_prM (T : Tok t) (hm : misT t = none) (ho : opnT t = none) : cnV (prM t) = cnV (hypM t) := by
  rw [cnV_ok (mch_full (full_prM T hm ho)), cnV_ok (mch_full (full_hyp T hm ho)), can_prM T hm ho]
end

end Go.Proofs.Ytepmdnggiajkbaa

/-
  Tables in plain words: what the program's machine() keeps on its way.
-/
namespace Go.Proofs.Ytepmdnggiajkbaa
set_option linter.unusedVariables false
open Go.RowKit

theorem first_none3 {p : Nat → Bool} {n : Nat} (h : first p n = none) : ∀ j, j < n → p j = false := by
  rcases first_cases p n with ⟨_, h2⟩ | ⟨i, h2, _⟩
  · exact h2
  · rw [h] at h2; cases h2
theorem first_skip3 {p : Nat → Bool} {n : Nat} (h : p n = false) : first p (n + 1) = first p n := by
  simp only [first, h]
  cases first p n <;> simp
/-- What the map says of a class, once the first I rows are seen: its number. -/
def stF (R : Nat → Nat → Bool) (c : Nat → Nat) (I x : Nat) : Option Value := (first (fun j => c j == x) I).map fun j => .int .i64 (cl R j)
section
variable {R : Nat → Nat → Bool} {c : Nat → Nat} {N : Nat}
theorem stF_new (hc : ∀ i j, i < N → j < N → (c i = c j ↔ R i j = true)) {I : Nat} (hI : I < N) (e : first (fun j => c j == c I) I = none) :
    reps R (I + 1) = reps R I ++ [(I : Int)] ∧ (fun y => if y = c I then some (Value.int .i64 ((nc R I : Nat) : Int)) else stF R c I y) = stF R c (I + 1) := by
  have hn : first (R I) I = none := first_none fun j hj => by
    have h1 := first_none3 e j hj
    cases q : R I j with
    | false => rfl
    | true =>
      have := (hc I j hI (by omega)).2 q
      rw [this] at h1
      simp at h1
  refine ⟨by rw [reps, if_pos hn], funext fun y => ?_⟩
  by_cases h : y = c I
  · subst h
    rw [if_pos rfl]
    unfold stF
    simp only [first, e]
    simp [cl_none hn]
  · rw [if_neg h]
    unfold stF
    rw [first_skip3 (p := fun j => c j == y) (n := I) (by simpa using fun q => h q.symm)]
theorem stF_old (hc : ∀ i j, i < N → j < N → (c i = c j ↔ R i j = true)) {I k : Nat} (hI : I < N) (e : first (fun j => c j == c I) I = some k) : reps R (I + 1) = reps R I ∧ stF R c I = stF R c (I + 1) := by
  rcases first_cases (fun j => c j == c I) I with ⟨h, _⟩ | ⟨j, h1, h2, h3, _⟩
  · rw [h] at e; cases e
  have hR : R I j = true := (hc I j hI (by omega)).1 (by simpa using Eq.symm (by simpa using h3 : c j = c I))
  refine ⟨by rw [reps, if_neg (fun q => by rw [first_none3 q j h2] at hR; cases hR)], funext fun y => ?_⟩
  unfold stF
  by_cases h : c I = y
  · subst h
    simp only [first, h1]
  · rw [first_skip3 (p := fun j => c j == y) (n := I) (by simpa using h)]
theorem stF_at (E : Eqv R N) (hc : ∀ i j, i < N → j < N → (c i = c j ↔ R i j = true)) {I i : Nat} (hI : I ≤ N) (hi : i < I) {x : Nat} (hx : x = c i) : stF R c I x = some (.int .i64 (cl R i)) := by
  subst hx
  unfold stF
  rcases first_cases (fun j => c j == c i) I with ⟨_, h⟩ | ⟨j, h1, h2, h3, _⟩
  · have := h i hi; simp at this
  · have e : c j = c i := by simpa using h3
    rw [h1, (cl_iff E (by omega) (by omega)).2 ((hc i j (by omega) (by omega)).1 e.symm)]
    rfl
end
section
variable {s : Ts} {t : Tb}
def Ts.rc (s : Ts) (i : Nat) : Nat := (s.ln (s.rw i)).cl
/-- Where the first of each class lies. -/
def frP (s : Ts) (R : Nat → Nat → Bool) (I : Nat) : List Int := (reps R I).map fun r => ((s.rw r.toNat : Nat) : Int)
theorem frP_len (s : Ts) (R : Nat → Nat → Bool) (I : Nat) : (frP s R I).length = (reps R I).length := by unfold frP; rw [List.length_map]
theorem Vw.rcs (W : Vw s t) (V : Vi s) (H : Hd s) (F : Ful s) : ∀ i j, i < t.rows.length → j < t.rows.length → (s.rc i = s.rc j ↔ Rl t i j = true) := fun i j hi hj => by
  rw [W.rl] at hi hj
  have := W.alike V H F (V.rwlt hi) (V.rwlt hj)
  unfold Ts.rc Rl
  rw [W.rw hi, W.rw hj]; exact this
/-- The class of an edge is that of the row that it leads to. -/
theorem Vw.ledTo (W : Vw s t) (V : Vi s) (H : Hd s) (F : Ful s) {i x q : Nat} (hi : i < s.rows.length) (hx : x < s.K) (hq : q < t.rows.length) (h : alkT t (t.rw q) (t.rw i ++ [(x : Int)]) = true) : (s.ln (1 + s.K * i + x)).cl = s.rc q := by
  have hq' : q < s.rows.length := by rw [← W.rl]; exact hq
  unfold Ts.rc
  rw [W.alike V H F (V.edge hi hx) (V.rwlt hq'), W.edge V hi hx, ← W.rw hq']
  exact alkT_symm h
theorem Tok.cst (T : Tok t) (W : Vw s t) (V : Vi s) (i : Nat) : s.cst i (tnC s.kind (s.K : Int)).length = (tnC t.kind t.k).map fun e => celV t (s.wd i) e := by
  obtain ⟨L, hL⟩ := T.cs
  rw [W.kd, W.k]
  refine List.ext_getElem (by simp [Ts.cst]) fun c h1 h2 => ?_
  have hc : c < (tnC s.kind (s.K : Int)).length := by simpa using h2
  have hco : s.co c = (tnC s.kind (s.K : Int))[c] := by
    unfold Ts.co
    rw [← W.cols, hL, W.kd, W.k, List.getD_eq_getElem?_getD, List.getElem?_append_left hc, List.getElem?_eq_getElem hc]; rfl
  simp only [Ts.cst, List.getElem_map, List.getElem_range]
  rw [hco, W.cel V]
theorem Tok.hyOs (T : Tok t) (W : Vw s t) (V : Vi s) {r : Nat} (hr : r < s.rows.length) : (s.cst (s.rw r) (tnC s.kind (s.K : Int)).length).flatMap id = hyO t t.k.toNat (t.rw r) := by
  rw [T.cst W V, W.rw hr]
  unfold hyO tnC
  by_cases hk : t.kind = 1
  · rw [if_pos hk, if_pos hk]; simp
  · rw [if_neg hk, if_neg hk, List.map_map, List.flatMap_map]; rfl
/-- A cell of the first columns says one number. -/
theorem Tok.one (T : Tok t) (W : Vw s t) (V : Vi s) (hm : misT t = none) {r c : Nat} (hr : r < s.rows.length) (hc : c < (tnC s.kind (s.K : Int)).length) : ∃ y, (s.cst (s.rw r) (tnC s.kind (s.K : Int)).length).getD c [] = [y] ∧ Sb [y] := by
  have hr' : r < t.rows.length := by rw [W.rl]; exact hr
  rw [T.cst W V, List.getD_eq_getElem?_getD, List.getElem?_map, W.kd, W.k, List.getElem?_eq_getElem hc]
  have he : (tnC s.kind (s.K : Int))[c] ∈ tnC t.kind t.k := by rw [W.kd, W.k]; exact List.getElem_mem _
  generalize (tnC s.kind (s.K : Int))[c] = e at *
  obtain ⟨L, hL⟩ := T.cs
  have h1 : t.kind = 1 → e = [] := fun h => by unfold tnC at he; rw [if_pos h] at he; simpa using he
  have h2 : t.kind = 2 → e.length = 1 := fun h => by
    unfold tnC at he; rw [if_neg (by omega)] at he
    obtain ⟨x, _, rfl⟩ := List.mem_map.1 he
    rfl
  have hle : e.length ≤ 1 := by
    rcases T.kd with h | h
    · rw [h1 h]; simp
    · rw [h2 h]; omega
  have hrl := T.rl _ (T.row_mem hr')
  obtain ⟨a, b, d⟩ := T.cell hm (T.rowAll hr') (by rw [hL]; exact List.mem_append.2 (.inl he)) (e := e) (by rw [List.length_append]; omega)
  have hl : (celV t (t.rw r) e).length = 1 := by
    rcases T.kd with h | h
    · exact a h
    · rw [b h]; exact h2 h
  show ∃ y, celV t (s.wd (s.rw r)) e = [y] ∧ _
  rw [← W.rw hr]
  obtain ⟨y, hy⟩ := List.length_eq_one_iff.1 hl
  rw [hy] at d ⊢
  refine ⟨y, rfl, fun z hz => ?_⟩
  have := d z hz
  have := T.o1
  omega
theorem flat_take {C : List (List Int)} {J : Nat} (h : J < C.length) : (C.take (J + 1)).flatMap id = (C.take J).flatMap id ++ C.getD J [] := by
  rw [List.take_add_one, List.flatMap_append, List.getElem?_eq_getElem h]
  simp [List.getD_eq_getElem?_getD, h]
theorem flat_len {C : List (List Int)} (h : ∀ c, c < C.length → (C.getD c []).length = 1) : ∀ J, J ≤ C.length → ((C.take J).flatMap id).length = J
  | 0, _ => rfl
  | J + 1, hJ => by rw [flat_take (by omega), List.length_append, flat_len h J (by omega), h J (by omega)]
end

end Go.Proofs.Ytepmdnggiajkbaa
