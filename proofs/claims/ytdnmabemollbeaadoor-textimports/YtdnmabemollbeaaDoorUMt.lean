/-
  Machines' texts there and back, in plain words.
-/
import Derived.Test.YtdnmabemollbeaaDoorUBack
import Derived.Test.YtdnmabemollbeaaDoorUTxt
import Derived.Test.YtdnmabemollbeaaDoorUImp
namespace Go.Proofs.YtdnmabemollbeaaDoor

/-- All numbers' bounds are from 0 on, all errors are errors. -/
def Good (ps : List Pc) : Prop := ∀ lo hi e, Pc.nm lo hi e ∈ ps → 0 ≤ lo ∧ 0 < e ∧ e ≤ 33
theorem Good.app {ps qs : List Pc} (h : Good ps) (k : Good qs) : Good (ps ++ qs) := fun lo hi e hm => by
  rcases List.mem_append.1 hm with hm | hm
  · exact h lo hi e hm
  · exact k lo hi e hm
theorem Good.lo {ps : List Pc} (h : Good ps) : ∀ lo hi e, Pc.nm lo hi e ∈ ps → 0 ≤ lo := fun lo hi e hm => (h lo hi e hm).1
theorem Good.errs {ps : List Pc} (h : Good ps) : Errs ps := fun lo hi e hm => (h lo hi e hm).2

/-! ### The lines' numbers -/
def dL (m : Mc) (s : Nat) : Nat → List (Int × Int)
  | 0 => [(33, m.out.getD s 0)]
  | j + 1 => dL m s j ++ [(32, m.nx.getD (s * kN m + j) 0)]
def mL (m : Mc) (s : Nat) : Nat → List (Int × Int)
  | 0 => []
  | j + 1 => mL m s j ++ [(32, m.nx.getD (s * kN m + j) 0), (33, m.out.getD (s * kN m + j) 0)]
def sL (m : Mc) (s : Nat) : List (Int × Int) := if m.kind = 1 then dL m s (kN m) else mL m s (kN m)
def bdL (m : Mc) : Nat → List (Int × Int)
  | 0 => []
  | j + 1 => bdL m j ++ sL m j

theorem d_fit {m : Mc} (F : Full m) (s : Nat) : ∀ j, Fitp (stD m.o m.n j) (dL m s j) ∧ wr (stD m.o m.n j) (dL m s j) = dfaP m s j
  | 0 => by
    have hob := F.outB s
    have : m.out.getD s 0 ≤ m.o - 1 := by
      by_cases h : s < m.out.length
      · have := F.r.so s h; omega
      · have h0 : m.out.getD s 0 = 0 := by simp [List.getD, List.getElem?_eq_none (show m.out.length ≤ s by omega)]
        have := F.o0; omega
    rw [stD_zero, dfaP_zero]
    exact ⟨⟨rfl, hob.1, this, rfl⟩, by simp [dL, wr]⟩
  | j + 1 => by
    obtain ⟨hf, hw⟩ := d_fit F s j
    have hnb := F.r.nxB (s * kN m + j)
    have hle : m.nx.getD (s * kN m + j) 0 ≤ m.n - 1 := by
      by_cases h : s * kN m + j < m.nx.length
      · have := F.r.st _ h; omega
      · have h0 : m.nx.getD (s * kN m + j) 0 = 0 := by simp [List.getD, List.getElem?_eq_none (show m.nx.length ≤ s * kN m + j by omega)]
        have := F.r.n0; omega
    have hf1 : Fitp [.tx [32], .nm 0 (m.n - 1) 32] [((32 : Int), m.nx.getD (s * kN m + j) 0)] := ⟨rfl, hnb.1, hle, rfl⟩
    rw [stD_succ, dfaP_succ, dL]
    refine ⟨hf.app hf1, ?_⟩
    rw [wr_app hf, hw]; simp [wr]
theorem m_fit {m : Mc} (F : Full m) (s : Nat) : ∀ j, Fitp (stM m.o m.n j) (mL m s j) ∧ wr (stM m.o m.n j) (mL m s j) = melP m s j
  | 0 => ⟨rfl, rfl⟩
  | j + 1 => by
    obtain ⟨hf, hw⟩ := m_fit F s j
    have hnb := F.r.nxB (s * kN m + j)
    have hle : m.nx.getD (s * kN m + j) 0 ≤ m.n - 1 := by
      by_cases h : s * kN m + j < m.nx.length
      · have := F.r.st _ h; omega
      · have h0 : m.nx.getD (s * kN m + j) 0 = 0 := by simp [List.getD, List.getElem?_eq_none (show m.nx.length ≤ s * kN m + j by omega)]
        have := F.r.n0; omega
    have hob := F.outB (s * kN m + j)
    have hlo : m.out.getD (s * kN m + j) 0 ≤ m.o - 1 := by
      by_cases h : s * kN m + j < m.out.length
      · have := F.r.so _ h; omega
      · have h0 : m.out.getD (s * kN m + j) 0 = 0 := by simp [List.getD, List.getElem?_eq_none (show m.out.length ≤ s * kN m + j by omega)]
        have := F.o0; omega
    have hf1 : Fitp [.tx [if j = 0 then 10 else 32], .nm 0 (m.n - 1) 32, .tx [47], .nm 0 (m.o - 1) 33] [((32 : Int), m.nx.getD (s * kN m + j) 0), (33, m.out.getD (s * kN m + j) 0)] := ⟨rfl, hnb.1, hle, rfl, hob.1, hlo, rfl⟩
    rw [show stM m.o m.n (j + 1) = stM m.o m.n j ++ [.tx [if j = 0 then 10 else 32], .nm 0 (m.n - 1) 32, .tx [47], .nm 0 (m.o - 1) 33] from rfl, melP_succ, mL]
    refine ⟨hf.app hf1, ?_⟩
    rw [wr_app hf, hw]; simp [wr]
theorem s_fit {m : Mc} (F : Full m) (s : Nat) : Fitp (stP m.kind m.k m.o m.n) (sL m s) ∧ wr (stP m.kind m.k m.o m.n) (sL m s) = stT m s := by
  unfold stP sL stT
  by_cases h : m.kind = 1
  · simp only [if_pos h]; exact d_fit F s _
  · simp only [if_neg h]; exact m_fit F s _
theorem b_fit {m : Mc} (F : Full m) : ∀ j, Fitp (stsP m.kind m.k m.o m.n j) (bdL m j) ∧ wr (stsP m.kind m.k m.o m.n j) (bdL m j) = (List.range j).flatMap (stT m)
  | 0 => ⟨rfl, rfl⟩
  | j + 1 => by
    obtain ⟨hf, hw⟩ := b_fit F j
    obtain ⟨hf1, hw1⟩ := s_fit F j
    rw [stsP_succ, bdL]
    refine ⟨hf.app hf1, ?_⟩
    rw [wr_app hf, hw, hw1, List.range_succ, List.flatMap_append]; simp
theorem bd_fit {m : Mc} (F : Full m) : Fitp (bdP m.kind m.k m.o m.n) (bdL m (nN m)) ∧ wr (bdP m.kind m.k m.o m.n) (bdL m (nN m)) = (List.range (nN m)).flatMap (stT m) ++ [10] := by
  obtain ⟨hf, hw⟩ := b_fit F (nN m)
  rw [bdP_eq]
  have h1 : Fitp [.tx [10]] [] := rfl
  refine ⟨by have := hf.app h1; rwa [List.append_nil] at this, ?_⟩
  have := wr_app (qs := [.tx [10]]) (k := []) hf
  rw [List.append_nil] at this
  show wr (stsP m.kind m.k m.o m.n (nN m) ++ [.tx [10]]) (bdL m (nN m)) = _
  rw [this, hw]; rfl
theorem hd_fit {m : Mc} (F : Full m) : Fitp (hdP m.kind) (hdV m.kind m.k m.o m.n) ∧ wr (hdP m.kind) (hdV m.kind m.k m.o m.n) = szT m := by
  have k0 := F.r.k0; have k1 := F.r.k1; have n0 := F.r.n0; have n1 := F.r.n1; have o0 := F.o0; have o1 := F.o1
  unfold hdP hdV szT
  by_cases h : m.kind = 1
  · simp only [if_pos h]
    exact ⟨⟨rfl, k0, k1, rfl, n0, n1, rfl⟩, by simp [wr]⟩
  · simp only [if_neg h]
    exact ⟨⟨rfl, k0, k1, rfl, o0, o1, rfl, n0, n1, rfl⟩, by simp [wr]⟩
/-- A machine's text, of pieces. -/
theorem exp_wr {m : Mc} (F : Full m) : expT m = wr (hdP m.kind) (hdV m.kind m.k m.o m.n) ++ wr (bdP m.kind m.k m.o m.n) (bdL m (nN m)) := by
  rw [(hd_fit F).2, (bd_fit F).2]; simp [expT, expP]

/-! ### The pieces are well apart -/
def SepE (ps : List Pc) : Prop := ∀ c t qs, dgt c = false → Sepd (.tx (c :: t) :: qs) → Sepd (ps ++ .tx (c :: t) :: qs)
theorem sepE_nil : SepE [] := fun _ _ _ _ h => h
theorem sepE_d {o n : Int} (ho : o ≤ 64) (hn : n ≤ 1024) : ∀ j, SepE (stD o n j)
  | 0 => fun c t qs hc h => ⟨by simp, by omega, hc, h⟩
  | j + 1 => fun c t qs hc h => by
    rw [stD_succ, List.append_assoc]
    exact sepE_d ho hn j 32 [] _ (by decide) ⟨by simp, by omega, hc, h⟩
theorem sepE_m {o n : Int} (ho : o ≤ 64) (hn : n ≤ 1024) : ∀ j, SepE (stM o n j)
  | 0 => sepE_nil
  | j + 1 => fun c t qs hc h => by
    rw [show stM o n (j + 1) = stM o n j ++ [.tx [if j = 0 then 10 else 32], .nm 0 (n - 1) 32, .tx [47], .nm 0 (o - 1) 33] from rfl, List.append_assoc]
    refine sepE_m ho hn j (if j = 0 then 10 else 32) [] _ (by split <;> decide) ⟨by simp, by omega, (show dgt 47 = false by decide), by simp, by omega, hc, h⟩
theorem sepE_s {kd k o n : Int} (ho : o ≤ 64) (hn : n ≤ 1024) : SepE (stP kd k o n) := by
  unfold stP
  split
  · exact sepE_d ho hn _
  · exact sepE_m ho hn _
theorem stM_head (o n : Int) : ∀ {j : Nat}, 0 < j → ∃ qs, stM o n j = .tx [10] :: qs
  | 1, _ => ⟨_, rfl⟩
  | j + 2, _ => by
    obtain ⟨qs, h⟩ := stM_head o n (j := j + 1) (by omega)
    exact ⟨qs ++ _, by rw [show stM o n (j + 2) = stM o n (j + 1) ++ [.tx [if j + 1 = 0 then 10 else 32], .nm 0 (n - 1) 32, .tx [47], .nm 0 (o - 1) 33] from rfl, h]; rfl⟩
theorem stP_head {kd k o n : Int} (hk : 1 ≤ k) : ∃ qs, stP kd k o n = .tx [10] :: qs := by
  unfold stP
  split
  · exact ⟨_, rfl⟩
  · exact stM_head o n (by omega)
theorem sepE_ss {kd k o n : Int} (hk : 1 ≤ k) (ho : o ≤ 64) (hn : n ≤ 1024) : ∀ j, SepE (stsP kd k o n j)
  | 0 => sepE_nil
  | j + 1 => fun c t qs hc h => by
    rw [stsP_succ, List.append_assoc]
    obtain ⟨ps, hp⟩ := stP_head (kd := kd) (k := k) (o := o) (n := n) hk
    have h1 := sepE_s (kd := kd) (k := k) ho hn c t qs hc h
    rw [hp] at h1 ⊢
    exact sepE_ss hk ho hn j 10 [] _ (by decide) h1
theorem bd_head {kd k o n : Int} (hk : 1 ≤ k) : ∃ qs, bdP kd k o n = .tx [10] :: qs := by
  rw [bdP_eq]
  have : ∀ j, ∃ qs, stsP kd k o n j ++ [.tx [10]] = .tx [10] :: qs := by
    intro j
    induction j with
    | zero => exact ⟨_, rfl⟩
    | succ j ih =>
      obtain ⟨qs, hq⟩ := ih
      obtain ⟨ps, hp⟩ := stP_head (kd := kd) (k := k) (o := o) (n := n) hk
      cases hs : stsP kd k o n j with
      | nil => exact ⟨ps ++ [.tx [10]], by rw [stsP_succ, hs, hp]; rfl⟩
      | cons x xs =>
        rw [hs] at hq
        injection hq with hx _
        subst hx
        exact ⟨xs ++ stP kd k o n ++ [.tx [10]], by rw [stsP_succ, hs]; simp⟩
  exact this _
theorem sep_bd {kd k o n : Int} (hk : 1 ≤ k) (ho : o ≤ 64) (hn : n ≤ 1024) : Sepd (bdP kd k o n) := by
  rw [bdP_eq]; exact sepE_ss hk ho hn _ 10 [] [] (by decide) ⟨by simp, trivial⟩
theorem sep_all {kd k o n : Int} (hk : 1 ≤ k) (ho : o ≤ 64) (hn : n ≤ 1024) : Sepd (hdP kd ++ bdP kd k o n) := by
  have hb := sep_bd (kd := kd) hk ho hn
  obtain ⟨qs, hq⟩ := bd_head (kd := kd) (k := k) (o := o) (n := n) hk
  rw [hq] at hb ⊢
  unfold hdP
  split
  · exact ⟨by simp, by decide, (show dgt 32 = false by decide), by simp, by decide, (show dgt 10 = false by decide), hb⟩
  · exact ⟨by simp, by decide, (show dgt 32 = false by decide), by simp, by decide, (show dgt 32 = false by decide), by simp, by decide, (show dgt 10 = false by decide), hb⟩
theorem nm_st {kd k o n lo hi e : Int} (h : Pc.nm lo hi e ∈ stP kd k o n) : lo = 0 ∧ ((hi = n - 1 ∧ e = 32) ∨ (hi = o - 1 ∧ e = 33)) := by
  have hD : ∀ j, Pc.nm lo hi e ∈ stD o n j → lo = 0 ∧ ((hi = n - 1 ∧ e = 32) ∨ (hi = o - 1 ∧ e = 33)) := by
    intro j
    induction j with
    | zero => intro h; simp [stD, wyD] at h; obtain ⟨rfl, rfl, rfl⟩ := h; exact ⟨rfl, .inr ⟨rfl, rfl⟩⟩
    | succ j ih =>
      intro h
      rw [stD_succ, List.mem_append] at h
      rcases h with h | h
      · exact ih h
      · simp at h; obtain ⟨rfl, rfl, rfl⟩ := h; exact ⟨rfl, .inl ⟨rfl, rfl⟩⟩
  have hM : ∀ j, Pc.nm lo hi e ∈ stM o n j → lo = 0 ∧ ((hi = n - 1 ∧ e = 32) ∨ (hi = o - 1 ∧ e = 33)) := by
    intro j
    induction j with
    | zero => intro h; cases h
    | succ j ih =>
      intro h
      rw [stM, List.mem_append] at h
      rcases h with h | h
      · exact ih h
      · simp at h
        rcases h with ⟨rfl, rfl, rfl⟩ | ⟨rfl, rfl, rfl⟩
        · exact ⟨rfl, .inl ⟨rfl, rfl⟩⟩
        · exact ⟨rfl, .inr ⟨rfl, rfl⟩⟩
  unfold stP at h
  split at h
  · exact hD _ h
  · exact hM _ h
theorem nm_bd {kd k o n lo hi e : Int} (h : Pc.nm lo hi e ∈ bdP kd k o n) : lo = 0 ∧ ((hi = n - 1 ∧ e = 32) ∨ (hi = o - 1 ∧ e = 33)) := by
  rw [bdP_eq] at h
  have hs : ∀ j, Pc.nm lo hi e ∈ stsP kd k o n j → lo = 0 ∧ ((hi = n - 1 ∧ e = 32) ∨ (hi = o - 1 ∧ e = 33)) := by
    intro j
    induction j with
    | zero => intro h; cases h
    | succ j ih =>
      intro h
      rw [stsP_succ, List.mem_append] at h
      rcases h with h | h
      · exact ih h
      · exact nm_st h
  rcases List.mem_append.1 h with h | h
  · exact hs _ h
  · simp at h
theorem good_bd (kd k o n : Int) : Good (bdP kd k o n) := fun lo hi e h => by
  obtain ⟨rfl, h | h⟩ := nm_bd h
  · obtain ⟨_, rfl⟩ := h; decide
  · obtain ⟨_, rfl⟩ := h; decide
theorem good_hd (kd : Int) : Good (hdP kd) := fun lo hi e h => by
  unfold hdP at h
  split at h
  · simp at h; omega
  · simp at h; omega


/-! ### Back -/
theorem app_len {l l2 k k2 : List (Int × Int)} (h : l ++ l2 = k ++ k2) (hl : l.length = k.length) : l = k ∧ l2 = k2 := List.append_inj h hl
theorem fit_len {ps : List Pc} {l k : List (Int × Int)} (h : Fitp ps l) (h' : Fitp ps k) : l.length = k.length := by
  have := h.tags; have h2 := h'.tags
  have e : l.map (·.1) = k.map (·.1) := by rw [this, h2]
  have := congrArg List.length e
  simpa using this
/-- A machine's text, with bytes behind it, is read up to its end. -/
theorem rd_text {m : Mc} (F : Full m) (r : List UInt8) : ∃ j, tk (expT m ++ r) 0 (hdP m.kind) = .ok (hdV m.kind m.k m.o m.n, j) ∧ tk (expT m ++ r) j (bdP m.kind m.k m.o m.n) = .ok (bdL m (nN m), (expT m).length) := by
  obtain ⟨hf1, hw1⟩ := hd_fit F
  obtain ⟨hf2, hw2⟩ := bd_fit F
  have hs := sep_all (kd := m.kind) F.r.k0 F.o1 F.r.n1
  have hg := (good_hd m.kind).app (good_bd m.kind m.k m.o m.n)
  have hb : (expT m ++ r).drop 0 = wr (hdP m.kind ++ bdP m.kind m.k m.o m.n) (hdV m.kind m.k m.o m.n ++ bdL m (nN m)) ++ r := by rw [List.drop_zero, wr_app hf1, exp_wr F]
  have ht := tk_back hs hg.lo (hf1.app hf2) hb
  rw [wr_app hf1, ← exp_wr F, Nat.zero_add] at ht
  cases h1 : tk (expT m ++ r) 0 (hdP m.kind) with
  | error x => rw [tk_app_bad h1] at ht; cases ht
  | ok p =>
    obtain ⟨l, j⟩ := p
    rw [tk_app_ok h1] at ht
    cases h2 : tk (expT m ++ r) j (bdP m.kind m.k m.o m.n) with
    | error x => rw [h2] at ht; cases ht
    | ok q =>
      obtain ⟨l2, j2⟩ := q
      rw [h2] at ht
      simp only [pre, Except.ok.injEq, Prod.mk.injEq] at ht
      obtain ⟨e1, e2⟩ := app_len ht.1 (fit_len (tk_was h1).1 hf1)
      subst e1; subst e2
      exact ⟨j, rfl, by rw [ht.2] at h2; exact h2⟩
theorem kd_text {m : Mc} (F : Full m) (r : List UInt8) : kdV (expT m ++ r) = m.kind := by
  unfold kdV
  rcases F.r.kd with h | h
  · rw [if_pos, h]; simp [expT, expP, szT, h]
  · rw [if_neg, h]; simp [expT, expP, szT, h]

/-! ### The lists -/
theorem range_get (l : List Int) : (List.range l.length).map (fun i => l.getD i 0) = l := by
  apply List.ext_getElem
  · simp
  · intro i h1 h2; simp at h1 ⊢; simp [h1]
theorem pk_d32 (m : Mc) (s : Nat) : ∀ j, pk 32 (dL m s j) = (List.range j).map fun x => m.nx.getD (s * kN m + x) 0
  | 0 => by simp [dL, pk]
  | j + 1 => by rw [dL, pk_app, pk_d32 m s j, List.range_succ, List.map_append]; simp [pk]
theorem pk_d33 (m : Mc) (s : Nat) : ∀ j, pk 33 (dL m s j) = [m.out.getD s 0]
  | 0 => by simp [dL, pk]
  | j + 1 => by rw [dL, pk_app, pk_d33 m s j]; simp [pk]
theorem pk_m32 (m : Mc) (s : Nat) : ∀ j, pk 32 (mL m s j) = (List.range j).map fun x => m.nx.getD (s * kN m + x) 0
  | 0 => by simp [mL, pk]
  | j + 1 => by rw [mL, pk_app, pk_m32 m s j, List.range_succ, List.map_append]; simp [pk]
theorem pk_m33 (m : Mc) (s : Nat) : ∀ j, pk 33 (mL m s j) = (List.range j).map fun x => m.out.getD (s * kN m + x) 0
  | 0 => by simp [mL, pk]
  | j + 1 => by rw [mL, pk_app, pk_m33 m s j, List.range_succ, List.map_append]; simp [pk]
theorem range_mul (f : Nat → Int) (k : Nat) : ∀ j, (List.range (j * k)).map f ++ (List.range k).map (fun x => f (j * k + x)) = (List.range ((j + 1) * k)).map f := fun j => by
  rw [Nat.add_mul, Nat.one_mul, List.range_add, List.map_append, List.map_map]; rfl
theorem pk_b32 (m : Mc) : ∀ j, pk 32 (bdL m j) = (List.range (j * kN m)).map fun x => m.nx.getD x 0
  | 0 => by simp [bdL, pk]
  | j + 1 => by
    rw [bdL, pk_app, pk_b32 m j, ← range_mul]
    congr 1
    unfold sL
    split
    · rw [pk_d32]
    · rw [pk_m32]
theorem pk_b33d {m : Mc} (h : m.kind = 1) : ∀ j, pk 33 (bdL m j) = (List.range j).map fun x => m.out.getD x 0
  | 0 => by simp [bdL, pk]
  | j + 1 => by
    rw [bdL, pk_app, pk_b33d h j, List.range_succ, List.map_append]
    unfold sL
    rw [if_pos h, pk_d33]; rfl
theorem pk_b33m {m : Mc} (h : m.kind ≠ 1) : ∀ j, pk 33 (bdL m j) = (List.range (j * kN m)).map fun x => m.out.getD x 0
  | 0 => by simp [bdL, pk]
  | j + 1 => by
    rw [bdL, pk_app, pk_b33m h j, ← range_mul]
    congr 1
    unfold sL
    rw [if_neg h, pk_m33]
theorem pk_all {m : Mc} (hn : m.nx.length = nN m * kN m) (ho : m.out.length = if m.kind = 1 then nN m else nN m * kN m) : pk 32 (bdL m (nN m)) = m.nx ∧ pk 33 (bdL m (nN m)) = m.out := by
  refine ⟨by rw [pk_b32, ← hn]; exact range_get _, ?_⟩
  by_cases h : m.kind = 1
  · rw [if_pos h] at ho; rw [pk_b33d h, ← ho]; exact range_get _
  · rw [if_neg h] at ho; rw [pk_b33m h, ← ho]; exact range_get _
theorem full_len {m : Mc} (F : Full m) : m.nx.length = nN m * kN m ∧ m.out.length = if m.kind = 1 then nN m else nN m * kN m := by
  have hk := kN_eq F
  have hn := nN_eq F
  have h1 := F.r.nx
  rw [← hk, ← hn] at h1
  refine ⟨by exact_mod_cast h1, ?_⟩
  rcases F.r.kd with h | h
  · have := F.r.outD h; rw [if_pos h]; omega
  · have h2 := F.r.outM h
    rw [← hk, ← hn] at h2
    rw [if_neg (by omega)]; exact_mod_cast h2
/-- What is exported is imported as it was. -/
theorem im_back {m : Mc} (F : Full m) : imP (expT m) = .ok m := by
  have hl := expT_len F
  obtain ⟨j, h1, h2⟩ := rd_text F []
  have hk := kd_text F []
  rw [List.append_nil] at h1 h2 hk
  rw [imP_short (by omega), hk, imK_ok h1 F.od, imB_ok h2 (by omega)]
  obtain ⟨e1, e2⟩ := pk_all (full_len F).1 (full_len F).2
  rw [e1, e2]
/-- With a byte more it is none. -/
theorem im_more {m : Mc} (F : Full m) (c : UInt8) : imP (expT m ++ [c]) = .error ((expT m).length, 6) := by
  have hl := expT_len F
  obtain ⟨j, h1, h2⟩ := rd_text F [c]
  have hk := kd_text F [c]
  have hlen : (expT m ++ [c]).length = (expT m).length + 1 := by simp
  rw [imP_short (by omega), hk, imK_ok h1 F.od, imB_more h2 (by omega)]

end Go.Proofs.YtdnmabemollbeaaDoor
