/-
  The reference's reading of a machine's text, in plain words: line by line; the same as the program's.
-/
import Derived.Test.YtdnmabemollbeaaDoorUThr
namespace Go.Proofs.YtdnmabemollbeaaDoor

/-- A line's pieces, with x of its letters. -/
def lnB (kd o n : Int) : Nat → List Pc
  | 0 => []
  | x + 1 => lnB kd o n x ++ (if kd = 1 then (if x = 0 then [.nm 0 (o - 1) 33] else []) ++ [.tx [32], .nm 0 (n - 1) 32] else (if x = 0 then [] else [.tx [32]]) ++ [.nm 0 (n - 1) 32, .tx [47], .nm 0 (o - 1) 33])
/-- A line. -/
def lnR (kd k o n : Int) : List Pc := lnB kd o n k.toNat ++ [.tx [10]]
def rpR (kd k o n : Int) : Nat → List Pc
  | 0 => []
  | j + 1 => lnR kd k o n ++ rpR kd k o n j
theorem rpR_snoc (kd k o n : Int) : ∀ j, rpR kd k o n j ++ lnR kd k o n = lnR kd k o n ++ rpR kd k o n j
  | 0 => by simp [rpR]
  | j + 1 => by rw [rpR, List.append_assoc, rpR_snoc kd k o n j]
theorem ln_d (o n : Int) : ∀ x, Pc.tx [10] :: lnB 1 o n (x + 1) = stD o n (x + 1)
  | 0 => rfl
  | x + 1 => by
    rw [lnB, stD_succ, ← ln_d o n x]; simp
theorem ln_m (o n : Int) : ∀ x, Pc.tx [10] :: lnB 2 o n (x + 1) = stM o n (x + 1)
  | 0 => rfl
  | x + 1 => by
    rw [lnB, stM, ← ln_m o n x]; simp
theorem ln_st {kd k : Int} (o n : Int) (hkd : kd = 1 ∨ kd = 2) (hk : 1 ≤ k) : stP kd k o n = .tx [10] :: lnB kd o n k.toNat := by
  obtain ⟨x, hx⟩ : ∃ x, k.toNat = x + 1 := ⟨k.toNat - 1, by omega⟩
  unfold stP
  rw [hx]
  rcases hkd with rfl | rfl
  · rw [if_pos rfl, ln_d]
  · rw [if_neg (by decide), ln_m]
theorem ln_all {kd k : Int} (o n : Int) (hkd : kd = 1 ∨ kd = 2) (hk : 1 ≤ k) : ∀ j, stsP kd k o n j ++ [.tx [10]] = .tx [10] :: rpR kd k o n j
  | 0 => rfl
  | j + 1 => by
    rw [stsP_succ, ln_st o n hkd hk, List.append_assoc]
    have := ln_all o n hkd hk j
    rw [show (Pc.tx [10] :: lnB kd o n k.toNat) ++ [.tx [10]] = [.tx [10]] ++ lnR kd k o n from rfl, ← List.append_assoc, this, List.cons_append, rpR_snoc]; rfl
/-- All behind the first line's numbers: a line break, the lines. -/
theorem bd_ln {kd k : Int} (o n : Int) (hkd : kd = 1 ∨ kd = 2) (hk : 1 ≤ k) : bdP kd k o n = .tx [10] :: rpR kd k o n n.toNat := by
  rw [bdP_eq]; exact ln_all o n hkd hk _

/-! ### A line's numbers -/
def tg (kd : Int) (i : Nat) : Int := if kd = 1 then (if i = 0 then 33 else 32) else (if i % 2 = 1 then 33 else 32)
theorem tags_d (o n : Int) : ∀ x, tags (lnB 1 o n (x + 1)) = 33 :: List.replicate (x + 1) 32
  | 0 => rfl
  | x + 1 => by
    rw [lnB, tags_app, tags_d o n x, List.replicate_succ' (n := x + 1)]; simp [tags]
theorem tags_m (o n : Int) : ∀ x, tags (lnB 2 o n x) = (List.range (2 * x)).map (tg 2)
  | 0 => rfl
  | x + 1 => by
    rw [lnB, tags_app, tags_m o n x, show 2 * (x + 1) = 2 * x + 1 + 1 by omega, List.range_succ, List.range_succ]
    have h1 : tg 2 (2 * x) = 32 := by unfold tg; rw [if_neg (by decide), if_neg (by omega)]
    have h2 : tg 2 (2 * x + 1) = 33 := by unfold tg; rw [if_neg (by decide), if_pos (by omega)]
    simp only [List.map_append, List.map_cons, List.map_nil, h1, h2, if_neg (show ¬ (2 : Int) = 1 by decide)]
    split <;> simp [tags]
/-- How many numbers a line has. -/
def lnN (kd k : Int) : Nat := if kd = 1 then k.toNat + 1 else 2 * k.toNat
theorem ln_tags {kd k : Int} (o n : Int) (hkd : kd = 1 ∨ kd = 2) (hk : 1 ≤ k) : tags (lnR kd k o n) = (List.range (lnN kd k)).map (tg kd) := by
  obtain ⟨x, hx⟩ : ∃ x, k.toNat = x + 1 := ⟨k.toNat - 1, by omega⟩
  unfold lnR lnN
  rw [tags_app, hx]
  rcases hkd with rfl | rfl
  · rw [tags_d, if_pos rfl]
    have : ∀ y, (33 : Int) :: List.replicate y 32 = (List.range (y + 1)).map (tg 1) := by
      intro y
      induction y with
      | zero => rfl
      | succ y ih =>
        rw [List.range_succ, List.map_append, ← ih, List.replicate_succ' (n := y)]
        have : tg 1 (y + 1) = 32 := by unfold tg; rw [if_pos rfl, if_neg (by omega)]
        simp [this]
    rw [← this]; simp [tags]
  · rw [tags_m, if_neg (by decide)]; simp [tags]
theorem ln_fit {kd k o n : Int} (hkd : kd = 1 ∨ kd = 2) (hk : 1 ≤ k) {l : List (Int × Int)} (hf : Fitp (lnR kd k o n) l) : l.length = lnN kd k ∧ ∀ i, i < l.length → (l.getD i (0, 0)).1 = tg kd i := by
  have h := hf.tags
  rw [ln_tags o n hkd hk] at h
  have hl : l.length = lnN kd k := by have := congrArg List.length h; simpa using this
  refine ⟨hl, fun i hi => ?_⟩
  have h1 := congrArg (·[i]?) h
  simp only [List.getElem?_map, List.getElem?_range (show i < lnN kd k by omega), List.getElem?_eq_getElem hi, Option.map_some, Option.some.injEq] at h1
  simp [hi, h1]
theorem take_last {l : List (Int × Int)} {i : Nat} (hi : i < l.length) : l.take (i + 1) = l.take i ++ [l.getD i (0, 0)] := by
  rw [List.take_add_one, List.getElem?_eq_getElem hi]; simp [hi]

/-! ### The whole -/
/-- Which kind the reference takes a text for. -/
def kdR (b : List UInt8) : Int := if b.head? = some 109 then 2 else 1
/-- The reference's reading: the first line; the others. -/
def hdR (kd : Int) : List Pc := hdP kd ++ [.tx [10]]
def rfB (b : List UInt8) (kd k o n : Int) (j : Nat) : Except (Nat × Int) Mc := match tk b j (rpR kd k o n n.toNat) with
  | .error x => .error x
  | .ok (l, q) => if q < b.length then .error (q, 6) else .ok ⟨kd, k, o, n, pk 32 l, pk 33 l⟩
def rfK (b : List UInt8) (kd : Int) : Except (Nat × Int) Mc := match tk b 0 (hdR kd) with
  | .error x => .error x
  | .ok (l, j) => rfB b kd (lK l) (lO kd l) (lN l) j
def rfP (b : List UInt8) : Except (Nat × Int) Mc := if 16777216 < b.length then .error (0, 2) else rfK b (kdR b)
theorem rfK_eq (b : List UInt8) {kd : Int} (hkd : kd = 1 ∨ kd = 2) : rfK b kd = imK b kd := by
  unfold rfK imK hdR
  rw [tk_app]
  cases h1 : tk b 0 (hdP kd) with
  | error x => rfl
  | ok p =>
    obtain ⟨l, j⟩ := p
    obtain ⟨hf, -, -⟩ := tk_was h1
    obtain ⟨k, o, n, rfl, hk0, hk1, hn0, hn1, ho0, ho1, hod⟩ := hd_was hkd hf
    simp only []
    rw [lK_hd, lN_hd, lO_hd k o n hod]
    unfold imB
    rw [bd_ln o n hkd hk0]
    cases hs : skp b j [10] with
    | error p => rw [tk_tx_bad hs, tk_tx_bad hs]; rfl
    | ok q =>
      rw [tk_tx hs, tk_tx hs]
      simp only [tk, pre, List.append_nil]
      rw [lK_hd, lN_hd, lO_hd k o n hod]; rfl
/-- Both read the same. -/
theorem rf_im (b : List UInt8) : rfP b = imP b := by
  unfold rfP imP
  split
  · rfl
  rw [rfK_eq b (by unfold kdR; split <;> simp)]
  have hd : ∀ kd, (kd = 1 ∧ b.head? ≠ some 100) ∨ (kd = 2 ∧ b.head? ≠ some 109) → imK b kd = .error (0, 6) := by
    intro kd h
    unfold imK
    have hb : b.head? = b[0]? := by cases b <;> rfl
    rcases h with ⟨rfl, h⟩ | ⟨rfl, h⟩
    · have hs : skp b 0 [100, 102, 97, 32] = .error 0 := by rw [skp, if_neg (by rw [← hb]; exact h)]
      rw [show hdP 1 = .tx [100, 102, 97, 32] :: [.nm 1 64 1, .tx [32], .nm 1 1024 3] from rfl, tk_tx_bad hs]
    · have hs : skp b 0 [109, 101, 97, 108, 121, 32] = .error 0 := by rw [skp, if_neg (by rw [← hb]; exact h)]
      rw [show hdP 2 = .tx [109, 101, 97, 108, 121, 32] :: [.nm 1 64 1, .tx [32], .nm 1 64 33, .tx [32], .nm 1 1024 3] from rfl, tk_tx_bad hs]
  unfold kdR kdV
  by_cases h1 : b.head? = some 109
  · rw [if_pos h1, if_neg (by rw [h1]; decide)]
  · rw [if_neg h1]
    by_cases h2 : b.head? = some 100
    · rw [if_pos h2]
    · rw [if_neg h2, hd 1 (.inl ⟨rfl, h2⟩), hd 2 (.inr ⟨rfl, h1⟩)]

end Go.Proofs.YtdnmabemollbeaaDoor
