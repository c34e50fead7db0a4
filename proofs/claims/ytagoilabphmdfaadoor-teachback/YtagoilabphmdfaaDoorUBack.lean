/-
  Texts there and back, in plain words: pieces that are written are read; pieces that are read were written so.
-/
import Derived.Test.YtagoilabphmdfaaDoorUNum
import Derived.Test.YtagoilabphmdfaaDoorURd
import Derived.Test.YtagoilabphmdfaaDoorUDig
namespace Go.Proofs.YtagoilabphmdfaaDoor

/-- A number that is written, with no digit behind it, is read. -/
theorem num_back {b : List UInt8} {i u : Nat} {r : List UInt8} (hu : u ≤ 9999) (hb : b.drop i = Lib.decDigits u ++ r) (hr : ∀ c, r.head? = some c → dgt c = false) : numV b i = (u, i + (Lib.decDigits u).length, 0) := by
  have hd : digs b i = Lib.decDigits u := by unfold digs; rw [hb, tw_stop (dec_dgt u) hr]
  have h1 := dec_pos' u
  have h4 := dcd_four hu
  unfold numV
  rw [hd, if_neg (by omega), if_neg ?_, if_neg (by omega), dec_val]
  rintro ⟨h5, h6⟩
  rcases Nat.eq_zero_or_pos u with h0 | h0
  · subst h0; rw [dcd_one (by decide)] at h5; omega
  · exact dec_head h0 h6
theorem skp_back {b : List UInt8} : ∀ {s : List UInt8} {i : Nat} {r : List UInt8}, b.drop i = s ++ r → skp b i s = .ok (i + s.length)
  | [], i, r, h => rfl
  | c :: s, i, r, h => by
    have h0 : b[i]? = some c := by
      have := congrArg (·[0]?) h
      simpa using this
    have h1 : b.drop (i + 1) = s ++ r := by
      have := congrArg (List.drop 1) h
      rw [List.drop_drop] at this
      simpa using this
    rw [skp, if_pos h0, skp_back h1]
    simp; omega
/-- Each number has bytes behind it that begin with no digit. -/
def Sepd : List Pc → Prop
  | [] => True
  | .tx s :: ps => s ≠ [] ∧ Sepd ps
  | .nm _ hi _ :: ps => hi ≤ 9999 ∧ (match ps with | .tx (c :: _) :: _ => dgt c = false | _ => False) ∧ Sepd ps
/-- What is written is read. -/
theorem tk_back {b : List UInt8} : ∀ {ps : List Pc} {i : Nat} {l : List (Int × Int)} {r : List UInt8}, Sepd ps → (∀ lo hi e, Pc.nm lo hi e ∈ ps → 0 ≤ lo) → Fitp ps l → b.drop i = wr ps l ++ r → tk b i ps = .ok (l, i + (wr ps l).length)
  | [], i, l, r, _, _, hf, h => by cases hf; rfl
  | .tx s :: ps, i, l, r, hs, h0, hf, h => by
    simp only [wr, List.append_assoc] at h
    have hk := skp_back h
    have h1 : b.drop (i + s.length) = wr ps l ++ r := by
      rw [← List.drop_drop, h, List.drop_left]
    rw [tk_tx hk, tk_back hs.2 (fun lo hi e hm => h0 lo hi e (List.mem_cons_of_mem _ hm)) hf h1]
    simp [wr]; omega
  | .nm lo hi e :: ps, i, [], r, hs, h0, hf, h => hf.elim
  | .nm lo hi e :: ps, i, x :: l, r, hs, h0, hf, h => by
    obtain ⟨h9, hsep, hs'⟩ := hs
    obtain ⟨he, hlo, hhi, hf'⟩ := hf
    have hl0 := h0 lo hi e List.mem_cons_self
    obtain ⟨u, hu⟩ : ∃ u : Nat, x.2 = (u : Int) := ⟨x.2.toNat, by omega⟩
    simp only [wr, List.append_assoc] at h
    rw [hu, itoa_nat] at h
    have hhead : ∀ c, (wr ps l ++ r).head? = some c → dgt c = false := by
      intro c hc
      match ps, hsep with
      | .tx (d :: t) :: ps', hsep =>
        simp only [wr, List.cons_append, List.head?_cons, Option.some.injEq] at hc
        rw [← hc]; exact hsep
    have hn := num_back (show u ≤ 9999 by omega) h hhead
    have h1 : b.drop (i + (Lib.decDigits u).length) = wr ps l ++ r := by
      rw [← List.drop_drop, h, List.drop_left]
    rw [tk_nm (by rw [hn]) (by rw [hn]; omega) (by rw [hn]; omega), hn]
    simp only []
    rw [tk_back hs' (fun lo hi e hm => h0 lo hi e (List.mem_cons_of_mem _ hm)) hf' h1]
    have : (e, (u : Int)) = x := by rw [← hu, ← he]
    simp only [pre, wr, List.length_append, List.singleton_append, hu, itoa_nat, this]
    simp; omega


/-! ### What is read was written so -/
theorem skp_was {b : List UInt8} : ∀ {s : List UInt8} {i j : Nat}, skp b i s = .ok j → j = i + s.length ∧ b.drop i = s ++ b.drop j
  | [], i, j, h => by cases h; exact ⟨rfl, rfl⟩
  | c :: s, i, j, h => by
    rw [skp] at h
    by_cases hc : b[i]? = some c
    · rw [if_pos hc] at h
      obtain ⟨e, hd⟩ := skp_was h
      obtain ⟨hlt, hge⟩ := List.getElem?_eq_some_iff.1 hc
      refine ⟨by simp; omega, ?_⟩
      rw [List.drop_eq_getElem_cons hlt, hge, hd]; rfl
    · rw [if_neg hc] at h; cases h
/-- Digits of which the first is not 0 are their number's. -/
theorem dec_of : ∀ (k : Nat) (l : List UInt8), l.length = k + 1 → (∀ c ∈ l, dgt c = true) → (l.length ≤ 1 ∨ l.head? ≠ some 48) → Lib.decDigits (valF 0 l) = l := by
  intro k
  induction k with
  | zero =>
    intro l hl hd _
    match l, hl with
    | [c], _ =>
      have hc := hd c List.mem_cons_self
      simp only [dgt, Bool.and_eq_true, decide_eq_true_eq] at hc
      have hv : valF 0 [c] = c.toNat - 48 := by simp [valF]
      rw [hv, Lib.decDigits, dif_pos (by omega), show 48 + (c.toNat - 48) = c.toNat by omega]
      simp
  | succ k ih =>
    intro l hl hd hh
    obtain ⟨l', c, rfl⟩ : ∃ l' c, l = l' ++ [c] := ⟨l.dropLast, l.getLast (by intro e; rw [e] at hl; simp at hl), (List.dropLast_concat_getLast _).symm⟩
    have hl' : l'.length = k + 1 := by simpa using hl
    have hd' : ∀ x ∈ l', dgt x = true := fun x hx => hd x (List.mem_append_left _ hx)
    have hc := hd c (List.mem_append_right _ List.mem_cons_self)
    simp only [dgt, Bool.and_eq_true, decide_eq_true_eq] at hc
    have hh' : l'.head? ≠ some 48 := by
      rcases hh with hh | hh
      · rw [List.length_append, hl'] at hh; simp at hh
      · intro e
        apply hh
        rw [List.head?_append, e]; rfl
    have ihl := ih l' hl' hd' (.inr hh')
    have hv : valF 0 (l' ++ [c]) = valF 0 l' * 10 + (c.toNat - 48) := by rw [valF_app]; simp [valF]
    have hpos : 0 < valF 0 l' := by
      rcases Nat.eq_zero_or_pos (valF 0 l') with h0 | h0
      · rw [h0] at ihl
        exfalso
        apply hh'
        rw [← ihl, Lib.decDigits, dif_pos (by decide)]
        rfl
      · exact h0
    rw [hv, Lib.decDigits, dif_neg (by omega), show (valF 0 l' * 10 + (c.toNat - 48)) / 10 = valF 0 l' by omega, show (valF 0 l' * 10 + (c.toNat - 48)) % 10 = c.toNat - 48 by omega, ihl, show 48 + (c.toNat - 48) = c.toNat by omega]
    simp
theorem mem_tw {l : List UInt8} : ∀ c ∈ l.takeWhile dgt, dgt c = true := by
  induction l with
  | nil => intro c h; cases h
  | cons x l ih =>
    intro c h
    by_cases hx : dgt x = true
    · rw [List.takeWhile_cons_of_pos hx, List.mem_cons] at h
      rcases h with rfl | h
      · exact hx
      · exact ih c h
    · rw [List.takeWhile_cons_of_neg hx] at h; cases h
theorem num_was {b : List UInt8} {i : Nat} (h : (numV b i).2.2 = 0) : b.drop i = Lib.decDigits (numV b i).1 ++ b.drop (numV b i).2.1 ∧ (numV b i).2.1 = i + (Lib.decDigits (numV b i).1).length := by
  unfold numV at h ⊢
  split at h
  · cases h
  · split at h
    · cases h
    · split at h
      · cases h
      · rename_i h1 h2 h3
        rw [if_neg h1, if_neg h2, if_neg h3]
        simp only []
        have hd : Lib.decDigits (valF 0 (digs b i)) = digs b i := by
          refine dec_of ((digs b i).length - 1) _ (by omega) mem_tw ?_
          by_cases h4 : (digs b i).length ≤ 1
          · exact .inl h4
          · exact .inr fun e => h2 ⟨by omega, e⟩
        rw [hd]
        refine ⟨?_, rfl⟩
        have hp := List.takeWhile_prefix (p := dgt) (l := b.drop i)
        obtain ⟨r, hr⟩ := hp
        rw [← List.drop_drop]
        have : (b.drop i).drop (digs b i).length = r := by
          conv => lhs; rw [← hr]
          exact List.drop_left
        rw [this]; exact hr.symm
theorem tk_was {b : List UInt8} : ∀ {ps : List Pc} {i j : Nat} {l : List (Int × Int)}, tk b i ps = .ok (l, j) → Fitp ps l ∧ b.drop i = wr ps l ++ b.drop j ∧ j = i + (wr ps l).length
  | [], i, j, l, h => by cases h; exact ⟨rfl, rfl, rfl⟩
  | .tx s :: ps, i, j, l, h => by
    cases hs : skp b i s with
    | error p => rw [tk_tx_bad hs] at h; cases h
    | ok q =>
      rw [tk_tx hs] at h
      obtain ⟨e, hd⟩ := skp_was hs
      obtain ⟨hf, hb, hj⟩ := tk_was h
      refine ⟨hf, ?_, ?_⟩
      · rw [hd, hb]; simp [wr]
      · simp [wr]; omega
  | .nm lo hi e :: ps, i, j, l, h => by
    by_cases h0 : (numV b i).2.2 = 0
    · by_cases h1 : ((numV b i).1 : Int) < lo ∨ hi < ((numV b i).1 : Int)
      · rw [tk_nm_out h0 h1] at h; cases h
      · rw [tk_nm h0 (by omega) (by omega)] at h
        cases ht : tk b (numV b i).2.1 ps with
        | error x => rw [ht] at h; cases h
        | ok p =>
          obtain ⟨l2, j2⟩ := p
          rw [ht] at h
          cases h
          obtain ⟨hf, hb, hj⟩ := tk_was ht
          obtain ⟨hn, hq⟩ := num_was h0
          refine ⟨⟨rfl, by omega, by omega, hf⟩, ?_, ?_⟩
          · rw [hn, hb]; simp [wr, itoa_nat]
          · simp [wr, itoa_nat]; omega
    · rw [tk_nm_form h0] at h; cases h

end Go.Proofs.YtagoilabphmdfaaDoor
