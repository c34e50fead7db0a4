/-
  A text that is read as a machine is that machine's text; faults lie within the text; a text that is cut is none: in plain words.
-/
import Derived.Test.YtdnmabemollbeaaDoorUMt
namespace Go.Proofs.YtdnmabemollbeaaDoor

theorem Fitp.mem : ∀ {ps : List Pc} {l : List (Int × Int)} {e x : Int}, Fitp ps l → (e, x) ∈ l → ∃ lo hi, Pc.nm lo hi e ∈ ps ∧ lo ≤ x ∧ x ≤ hi
  | [], l, e, x, h, hm => by cases h; cases hm
  | .tx _ :: ps, l, e, x, h, hm => by
    obtain ⟨lo, hi, h1, h2⟩ := Fitp.mem (ps := ps) h hm
    exact ⟨lo, hi, List.mem_cons_of_mem _ h1, h2⟩
  | .nm _ _ _ :: _, [], e, x, h, hm => h.elim
  | .nm lo hi e' :: ps, y :: l, e, x, h, hm => by
    rcases List.mem_cons.1 hm with rfl | hm
    · exact ⟨lo, hi, by rw [show e = e' from h.1]; exact List.mem_cons_self, h.2.1, h.2.2.1⟩
    · obtain ⟨lo, hi, h1, h2⟩ := Fitp.mem h.2.2.2 hm
      exact ⟨lo, hi, List.mem_cons_of_mem _ h1, h2⟩
theorem tags_mem : ∀ {ps : List Pc} {e : Int}, e ∈ tags ps → ∃ lo hi, Pc.nm lo hi e ∈ ps
  | [], e, h => by cases h
  | .tx _ :: ps, e, h => by
    obtain ⟨lo, hi, h1⟩ := tags_mem (ps := ps) h
    exact ⟨lo, hi, List.mem_cons_of_mem _ h1⟩
  | .nm lo hi e' :: ps, e, h => by
    rcases List.mem_cons.1 h with rfl | h
    · exact ⟨lo, hi, List.mem_cons_self⟩
    · obtain ⟨lo, hi, h1⟩ := tags_mem h
      exact ⟨lo, hi, List.mem_cons_of_mem _ h1⟩
theorem pk_mem {e x : Int} {l : List (Int × Int)} (h : x ∈ pk e l) : (e, x) ∈ l := by
  unfold pk at h
  rw [List.mem_map] at h
  obtain ⟨⟨u, v⟩, h1, rfl⟩ := h
  rw [List.mem_filter] at h1
  have := h1.2
  simp at this
  subst this
  exact h1.1
/-- How many numbers of one kind. -/
def ct (e : Int) : List Int → Nat
  | [] => 0
  | x :: l => (if x = e then 1 else 0) + ct e l
theorem ct_app (e : Int) (l m : List Int) : ct e (l ++ m) = ct e l + ct e m := by
  induction l with
  | nil => simp [ct]
  | cons x l ih => rw [List.cons_append, ct, ct, ih]; omega
theorem pk_len (e : Int) : ∀ (l : List (Int × Int)), (pk e l).length = ct e (l.map (·.1))
  | [] => rfl
  | x :: l => by
    rw [List.map_cons, ct, ← pk_len e l]
    by_cases h : x.1 = e
    · rw [pk_yes h, if_pos h, List.length_cons]; omega
    · rw [pk_no h, if_neg h]; omega
theorem pk_eq : ∀ {l k : List (Int × Int)}, l.map (·.1) = k.map (·.1) → (∀ e ∈ l.map (·.1), pk e l = pk e k) → l = k
  | [], k, h, _ => by
    cases k with
    | nil => rfl
    | cons y k => cases h
  | x :: l, [], h, _ => by cases h
  | x :: l, y :: k, h, hp => by
    rw [List.map_cons, List.map_cons] at h
    injection h with h1 h2
    have hx := hp x.1 (by simp)
    rw [pk_yes rfl, pk_yes h1.symm] at hx
    injection hx with h3 h4
    have : x = y := Prod.ext h1 h3
    subst this
    rw [pk_eq h2 fun e he => ?_]
    have := hp e (List.mem_cons_of_mem _ he)
    by_cases h : x.1 = e
    · rw [pk_yes h, pk_yes h] at this; injection this
    · rwa [pk_no h, pk_no h] at this
theorem ct_d32 (o n : Int) : ∀ j, ct 32 (tags (stD o n j)) = j
  | 0 => by simp [stD, wyD, tags, ct]
  | j + 1 => by rw [stD_succ, tags_app, ct_app, ct_d32 o n j]; simp [tags, ct]
theorem ct_d33 (o n : Int) : ∀ j, ct 33 (tags (stD o n j)) = 1
  | 0 => by simp [stD, wyD, tags, ct]
  | j + 1 => by rw [stD_succ, tags_app, ct_app, ct_d33 o n j]; simp [tags, ct]
theorem ct_m32 (o n : Int) : ∀ j, ct 32 (tags (stM o n j)) = j
  | 0 => by simp [stM, tags, ct]
  | j + 1 => by rw [stM, tags_app, ct_app, ct_m32 o n j]; simp [tags, ct]
theorem ct_m33 (o n : Int) : ∀ j, ct 33 (tags (stM o n j)) = j
  | 0 => by simp [stM, tags, ct]
  | j + 1 => by rw [stM, tags_app, ct_app, ct_m33 o n j]; simp [tags, ct]
theorem ct_s32 (kd k o n : Int) : ∀ j, ct 32 (tags (stsP kd k o n j)) = j * k.toNat
  | 0 => by simp [stsP, tags, ct]
  | j + 1 => by
    rw [stsP_succ, tags_app, ct_app, ct_s32 kd k o n j, Nat.add_mul, Nat.one_mul]
    unfold stP
    split
    · rw [ct_d32]
    · rw [ct_m32]
theorem ct_s33d (k o n : Int) : ∀ j, ct 33 (tags (stsP 1 k o n j)) = j
  | 0 => by simp [stsP, tags, ct]
  | j + 1 => by
    rw [stsP_succ, tags_app, ct_app, ct_s33d k o n j]
    unfold stP
    rw [if_pos rfl, ct_d33]
theorem ct_s33m (k o n : Int) : ∀ j, ct 33 (tags (stsP 2 k o n j)) = j * k.toNat
  | 0 => by simp [stsP, tags, ct]
  | j + 1 => by
    rw [stsP_succ, tags_app, ct_app, ct_s33m k o n j, Nat.add_mul, Nat.one_mul]
    unfold stP
    rw [if_neg (by decide), ct_m33]
theorem ct_bd (e kd k o n : Int) : ct e (tags (bdP kd k o n)) = ct e (tags (stsP kd k o n n.toNat)) := by
  rw [bdP_eq, tags_app, ct_app]; simp [tags, ct]
/-- The first line's numbers, by name. -/
theorem hd_was {kd : Int} (h : kd = 1 ∨ kd = 2) {l : List (Int × Int)} (hf : Fitp (hdP kd) l) : ∃ k o n, l = hdV kd k o n ∧ 1 ≤ k ∧ k ≤ 64 ∧ 1 ≤ n ∧ n ≤ 1024 ∧ 1 ≤ o ∧ o ≤ 64 ∧ (kd = 1 → o = 2) := by
  rcases h with rfl | rfl
  · rw [hd_d] at hf
    match l, hf with
    | [], hf => exact hf.elim
    | [_], hf => exact hf.2.2.2.elim
    | [x, y], hf =>
      obtain ⟨x1, x2⟩ := x
      obtain ⟨y1, y2⟩ := y
      obtain ⟨h1, h2, h3, h4, h5, h6, _⟩ := hf
      simp only at h1 h2 h3 h4 h5 h6
      exact ⟨x2, 2, y2, by rw [hdV_d, h1, h4], h2, h3, h5, h6, by decide, by decide, fun _ => rfl⟩
    | _ :: _ :: _ :: _, hf => cases hf.2.2.2.2.2.2
  · rw [hd_m] at hf
    match l, hf with
    | [], hf => exact hf.elim
    | [_], hf => exact hf.2.2.2.elim
    | [_, _], hf => exact hf.2.2.2.2.2.2.elim
    | [x, y, z], hf =>
      obtain ⟨x1, x2⟩ := x
      obtain ⟨y1, y2⟩ := y
      obtain ⟨z1, z2⟩ := z
      obtain ⟨h1, h2, h3, h4, h5, h6, h7, h8, h9, _⟩ := hf
      simp only at h1 h2 h3 h4 h5 h6 h7 h8 h9
      exact ⟨x2, y2, z2, by rw [hdV_m, h1, h4, h7], h2, h3, h8, h9, h5, h6, fun e => by cases e⟩
    | _ :: _ :: _ :: _ :: _, hf => cases hf.2.2.2.2.2.2.2.2.2
theorem kd_or (b : List UInt8) : kdV b = 1 ∨ kdV b = 2 := by
  rcases kdV_cases b with h | h
  · exact .inl h.1
  · exact .inr h.1
/-- What is imported is a machine, and is exported as the same text. -/
theorem im_there {b : List UInt8} {m : Mc} (h : imP b = .ok m) : Full m ∧ expT m = b := by
  by_cases hb : 16777216 < b.length
  · rw [imP_long hb] at h; cases h
  rw [imP_short hb] at h
  have hkd := kd_or b
  generalize kdV b = kd at h hkd
  cases h1 : tk b 0 (hdP kd) with
  | error x => rw [imK_bad h1] at h; cases h
  | ok p =>
    obtain ⟨l, j⟩ := p
    obtain ⟨hf1, hw1, hj1⟩ := tk_was h1
    obtain ⟨k, o, n, rfl, hk0, hk1, hn0, hn1, ho0, ho1, hod⟩ := hd_was hkd hf1
    rw [imK_ok h1 hod] at h
    cases h2 : tk b j (bdP kd k o n) with
    | error x => rw [imB_bad h2] at h; cases h
    | ok p =>
      obtain ⟨l2, q⟩ := p
      obtain ⟨hf2, hw2, hj2⟩ := tk_was h2
      by_cases hq : q < b.length
      · rw [imB_more h2 hq] at h; cases h
      rw [imB_ok h2 hq] at h
      have hm : m = ⟨kd, k, o, n, pk 32 l2, pk 33 l2⟩ := by injection h with h; exact h.symm
      subst hm
      have ht := hf2.tags
      have hl32 : (pk 32 l2).length = n.toNat * k.toNat := by rw [pk_len, ht, ct_bd, ct_s32]
      have hl33 : (pk 33 l2).length = if kd = 1 then n.toNat else n.toNat * k.toNat := by
        rw [pk_len, ht, ct_bd]
        rcases hkd with rfl | rfl
        · rw [if_pos rfl, ct_s33d]
        · rw [if_neg (by decide), ct_s33m]
      have hnk : ((n.toNat * k.toNat : Nat) : Int) = n * k := by
        rw [Int.natCast_mul, Int.toNat_of_nonneg (by omega), Int.toNat_of_nonneg (by omega)]
      have F : Full ⟨kd, k, o, n, pk 32 l2, pk 33 l2⟩ := by
        refine ⟨⟨hkd, hk0, hk1, hn0, hn1, ?_, ?_, ?_, ?_, ?_⟩, hod, ho0, ho1⟩
        · show ((pk 32 l2).length : Int) = n * k
          rw [hl32, hnk]
        · intro e
          show ((pk 33 l2).length : Int) = n
          rw [hl33, if_pos e]; omega
        · intro e
          show ((pk 33 l2).length : Int) = n * k
          rw [hl33, if_neg (by intro e'; have e2 : kd = 2 := e; omega), hnk]
        · intro i hi
          show 0 ≤ (pk 32 l2).getD i 0 ∧ (pk 32 l2).getD i 0 < n
          have hm : (pk 32 l2).getD i 0 ∈ pk 32 l2 := by
            rw [List.getD, List.getElem?_eq_getElem hi]; exact List.getElem_mem hi
          obtain ⟨lo, hi', h3, h4⟩ := hf2.mem (pk_mem hm)
          obtain ⟨rfl, h5 | h5⟩ := nm_bd h3
          · omega
          · omega
        · intro i hi
          show 0 ≤ (pk 33 l2).getD i 0 ∧ (pk 33 l2).getD i 0 < o
          have hm : (pk 33 l2).getD i 0 ∈ pk 33 l2 := by
            rw [List.getD, List.getElem?_eq_getElem hi]; exact List.getElem_mem hi
          obtain ⟨lo, hi', h3, h4⟩ := hf2.mem (pk_mem hm)
          obtain ⟨rfl, h5 | h5⟩ := nm_bd h3
          · omega
          · omega
      refine ⟨F, ?_⟩
      have hbl : l2 = bdL ⟨kd, k, o, n, pk 32 l2, pk 33 l2⟩ n.toNat := by
        obtain ⟨e1, e2⟩ := pk_all (full_len F).1 (full_len F).2
        refine pk_eq (by rw [ht]; exact ((bd_fit F).1.tags).symm) fun e he => ?_
        rw [ht] at he
        obtain ⟨lo, hi, h3⟩ := tags_mem he
        obtain ⟨rfl, h5 | h5⟩ := nm_bd h3
        · rw [h5.2]; exact e1.symm
        · rw [h5.2]; exact e2.symm
      rw [exp_wr F]
      show wr (hdP kd) (hdV kd k o n) ++ wr (bdP kd k o n) (bdL ⟨kd, k, o, n, pk 32 l2, pk 33 l2⟩ n.toNat) = b
      rw [← hbl]
      rw [List.drop_zero] at hw1
      rw [hw1, hw2, show b.drop q = [] from List.drop_eq_nil_of_le (by omega), List.append_nil]
/-- A fault lies within the text. -/
theorem im_bad {b : List UInt8} {p : Nat} {e : Int} (h : imP b = .error (p, e)) : p ≤ b.length ∧ 0 < e ∧ e ≤ 33 := by
  by_cases hb : 16777216 < b.length
  · rw [imP_long hb] at h; cases h; exact ⟨Nat.zero_le _, by decide, by decide⟩
  rw [imP_short hb] at h
  have hkd := kd_or b
  generalize kdV b = kd at h hkd
  cases h1 : tk b 0 (hdP kd) with
  | error x => rw [imK_bad h1] at h; cases h; exact ⟨tk_bad_le (Nat.zero_le _) h1, tk_err (good_hd kd).errs h1⟩
  | ok q =>
    obtain ⟨l, j⟩ := q
    obtain ⟨hf1, hw1, hj1⟩ := tk_was h1
    obtain ⟨k, o, n, rfl, hk0, hk1, hn0, hn1, ho0, ho1, hod⟩ := hd_was hkd hf1
    rw [imK_ok h1 hod] at h
    have hj := (tk_le (Nat.zero_le _) h1).2
    cases h2 : tk b j (bdP kd k o n) with
    | error x => rw [imB_bad h2] at h; cases h; exact ⟨tk_bad_le hj h2, tk_err (good_bd kd k o n).errs h2⟩
    | ok q =>
      obtain ⟨l2, q⟩ := q
      by_cases hq : q < b.length
      · rw [imB_more h2 hq] at h; cases h; exact ⟨by omega, by decide, by decide⟩
      · rw [imB_ok h2 hq] at h; cases h
/-- Two machines of one text are one. -/
theorem exp_inj {m k : Mc} (F : Full m) (G : Full k) (h : expT m = expT k) : m = k := by
  have h1 := im_back F
  rw [h, im_back G] at h1
  injection h1 with h1; exact h1.symm
/-- A text that is cut is none. -/
theorem im_cut {m : Mc} (F : Full m) {c : Nat} (hc : c < (expT m).length) : ∃ p e, imP ((expT m).take c) = .error (p, e) ∧ p ≤ c ∧ 0 < e ∧ e ≤ 33 := by
  cases h : imP ((expT m).take c) with
  | error x =>
    obtain ⟨p, e⟩ := x
    obtain ⟨h1, h2⟩ := im_bad h
    rw [List.length_take] at h1
    exact ⟨p, e, rfl, by omega, h2⟩
  | ok k =>
    obtain ⟨G, hk⟩ := im_there h
    have hl := expT_len F
    have hkl : (expT k).length = c := by rw [hk, List.length_take]; omega
    obtain ⟨j, h1, h2⟩ := rd_text G ((expT m).drop c)
    have hkd := kd_text G ((expT m).drop c)
    rw [hk, List.take_append_drop, ← hk, hkl] at h2
    rw [hk, List.take_append_drop] at h1 hkd
    have hb := im_back F
    rw [imP_short (by omega), hkd, imK_ok h1 G.od, imB_more h2 hc] at hb
    cases hb

end Go.Proofs.YtdnmabemollbeaaDoor
