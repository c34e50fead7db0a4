/-
  A drawing's lines, in plain words: how many line breaks, what stands behind each; a symbol's label; the answers.
-/
import Derived.Test.YtbhdcgebcmgidaaDoorUDot
namespace Go.Proofs.YtbhdcgebcmgidaaDoor

/-! ### Line breaks -/
theorem cnt_nob {x : List UInt8} (h : NoB x) : x.count 10 = 0 := List.count_eq_zero.2 fun hc => h 10 hc rfl
theorem cnt_ind : ∀ {l : List (List UInt8)}, (∀ x ∈ l, NoB x) → (ind l).count 10 = l.length
  | [], _ => rfl
  | x :: l, h => by
    rw [ind_cons, List.count_append, List.count_append, List.count_append, cnt_nob (h x List.mem_cons_self), cnt_ind fun y hy => h y (List.mem_cons_of_mem _ hy), List.length_cons]
    have h1 : List.count (10 : UInt8) [32, 32] = 0 := by decide
    have h2 : List.count (10 : UInt8) [10] = 1 := by decide
    omega
theorem cnt_dt {m : Mc} {ls : List (List UInt8)} (F : Full m) (hl : ∀ l ∈ ls, NoB l) : (dtT m ls).count 10 = m.n.toNat + m.n.toNat * m.k.toNat + 5 := by
  unfold dtT
  rw [List.count_append, List.count_append, cnt_ind (nob_L F hl), dtL_len]
  have h1 : List.count (10 : UInt8) dHead = 1 := by decide
  have h2 : List.count (10 : UInt8) [125, 10] = 1 := by decide
  omega
/-- Where a text breaks. -/
theorem brk_at : ∀ {y p r t : List UInt8}, NoB y → p ++ 10 :: r = y ++ 10 :: t → (p = y ∧ r = t) ∨ ∃ p', p = y ++ 10 :: p' ∧ p' ++ 10 :: r = t
  | [], [], r, t, _, h => by injection h with _ h; exact .inl ⟨rfl, h⟩
  | [], c :: p, r, t, _, h => by
    injection h with h1 h2
    exact .inr ⟨p, by rw [h1]; rfl, h2⟩
  | c :: y, [], r, t, h0, h => by
    injection h with h1 _; exact absurd h1.symm (h0 c List.mem_cons_self)
  | c :: y, d :: p, r, t, h0, h => by
    injection h with h1 h2
    rcases brk_at (fun e he => h0 e (List.mem_cons_of_mem _ he)) h2 with ⟨e, e'⟩ | ⟨p', e, e'⟩
    · exact .inl ⟨by rw [h1, e], e'⟩
    · exact .inr ⟨p', by rw [h1, e]; rfl, e'⟩
theorem ind_at : ∀ {l : List (List UInt8)} {y p r : List UInt8}, NoB y → (∀ x ∈ l, NoB x) → p ++ 10 :: r = y ++ 10 :: (ind l ++ [125, 10]) → r = [] ∨ r = [125, 10] ∨ ∃ r', r = 32 :: 32 :: r'
  | [], y, p, r, hy, _, h => by
    rcases brk_at hy h with ⟨-, e⟩ | ⟨p', -, e⟩
    · exact .inr (.inl e)
    · rcases brk_at (y := [125]) (t := []) (by unfold NoB; decide) (by simpa [ind] using e) with ⟨-, e⟩ | ⟨p2, -, e⟩
      · exact .inl e
      · simp at e
  | x :: l, y, p, r, hy, hl, h => by
    rcases brk_at hy h with ⟨-, e⟩ | ⟨p', -, e⟩
    · rw [ind_cons] at e
      exact .inr (.inr ⟨x ++ [10] ++ ind l ++ [125, 10], by rw [e]; simp⟩)
    · rw [ind_cons] at e
      refine ind_at (y := [32, 32] ++ x) (l := l) (p := p') ?_ (fun z hz => hl z (List.mem_cons_of_mem _ hz)) (by rw [e]; simp)
      exact NoB.app (by unfold NoB; decide) (hl x List.mem_cons_self)
theorem dt_at {m : Mc} {ls : List (List UInt8)} (F : Full m) (hl : ∀ l ∈ ls, NoB l) {p r : List UInt8} (h : p ++ 10 :: r = dtT m ls) : r = [] ∨ r = [125, 10] ∨ ∃ r', r = 32 :: 32 :: r' :=
  ind_at (y := [100, 105, 103, 114, 97, 112, 104, 32, 109, 32, 123]) (l := dtL m ls) (p := p) (by unfold NoB; decide) (nob_L F hl) (by rw [h]; unfold dtT dHead; simp)
/-- The same by places. -/
theorem dt_two {m : Mc} {ls : List (List UInt8)} (F : Full m) (hl : ∀ l ∈ ls, NoB l) {i : Nat} (hi : i < (dtT m ls).length) (h : (dtT m ls).getD i 0 = 10) : i = (dtT m ls).length - 1 ∨ i = (dtT m ls).length - 3 ∨ (i + 2 < (dtT m ls).length ∧ (dtT m ls).getD (i + 1) 0 = 32 ∧ (dtT m ls).getD (i + 2) 0 = 32) := by
  have e : (dtT m ls).take i ++ 10 :: (dtT m ls).drop (i + 1) = dtT m ls := by
    have h1 : (dtT m ls)[i] = 10 := by simpa [hi] using h
    rw [← h1, ← List.drop_eq_getElem_cons hi, List.take_append_drop]
  have hl2 : (dtT m ls).length = i + 1 + ((dtT m ls).drop (i + 1)).length := by rw [List.length_drop]; omega
  have hg : ∀ j, (dtT m ls).getD (i + 1 + j) 0 = ((dtT m ls).drop (i + 1)).getD j 0 := fun j => by simp [List.getD_eq_getElem?_getD, List.getElem?_drop]
  rcases dt_at F hl e with h1 | h1 | ⟨r', h1⟩
  · left; rw [h1] at hl2; simp at hl2; omega
  · right; left; rw [h1] at hl2; simp at hl2; omega
  · right; right
    have h2 := hg 0
    have h3 := hg 1
    rw [h1] at hl2 h2 h3
    simp only [List.length_cons] at hl2
    exact ⟨by omega, by simpa using h2, by simpa using h3⟩

/-! ### Labels -/
/-- What Label answers. -/
def lbV (names : List Int) (x : Int) : List UInt8 × Int :=
  if x < 0 ∨ (names.length : Int) ≤ x then ([], 10)
  else if Lib.validRune (names.getD x.toNat 0) = false ∨ names.getD x.toNat 0 < 33 ∨ names.getD x.toNat 0 = 127 then ([], 20)
  else if names.getD x.toNat 0 = 34 ∨ names.getD x.toNat 0 = 92 then ([92] ++ Lib.encodeRune (names.getD x.toNat 0), 0)
  else (Lib.encodeRune (names.getD x.toNat 0), 0)
/-- The error of the first of the first k names that has one. -/
def lbE (names : List Int) : Nat → Int
  | 0 => 0
  | k + 1 => if lbE names k ≠ 0 then lbE names k else (lbV names (k : Int)).2
def lbL (names : List Int) (k : Nat) : List (List UInt8) := (List.range k).map fun (x : Nat) => (lbV names (x : Int)).1
theorem lbL_succ (names : List Int) (k : Nat) : lbL names (k + 1) = lbL names k ++ [(lbV names (k : Int)).1] := by simp [lbL, List.range_succ]
theorem lbL_len (names : List Int) (k : Nat) : (lbL names k).length = k := by simp [lbL]
theorem lbE_go {names : List Int} {k : Nat} (h : lbE names k = 0) : lbE names (k + 1) = (lbV names (k : Int)).2 := by rw [lbE, if_neg (by omega)]
theorem lbE_up {names : List Int} {k : Nat} (h : lbE names k ≠ 0) : ∀ j, k ≤ j → lbE names j = lbE names k
  | 0, hj => by rw [show k = 0 by omega]
  | j + 1, hj => by
    by_cases e : k = j + 1
    · rw [e]
    · have := lbE_up h j (by omega)
      rw [lbE, if_pos (by rw [this]; exact h), this]
/-- What Dot answers. -/
def dtV (m : Mc) (names : List Int) : List UInt8 × Int :=
  if (mchV m).2 ≠ 0 then ([], (mchV m).2)
  else if (names.length : Int) ≠ m.k then ([], 1)
  else if lbE names m.k.toNat ≠ 0 then ([], lbE names m.k.toNat)
  else (dtT m (lbL names m.k.toNat), 0)
theorem dtV_bad {m : Mc} {names : List Int} (h : (mchV m).2 ≠ 0) : dtV m names = ([], (mchV m).2) := by unfold dtV; rw [if_pos h]
theorem dtV_arg {m : Mc} {names : List Int} (h : (mchV m).2 = 0) (h1 : (names.length : Int) ≠ m.k) : dtV m names = ([], 1) := by unfold dtV; rw [if_neg (by omega), if_pos h1]
theorem dtV_lab {m : Mc} {names : List Int} (h : (mchV m).2 = 0) (h1 : (names.length : Int) = m.k) (h2 : lbE names m.k.toNat ≠ 0) : dtV m names = ([], lbE names m.k.toNat) := by unfold dtV; rw [if_neg (by omega), if_neg (by omega), if_pos h2]
theorem dtV_ok {m : Mc} {names : List Int} (h : (mchV m).2 = 0) (h1 : (names.length : Int) = m.k) (h2 : lbE names m.k.toNat = 0) : dtV m names = (dtT m (lbL names m.k.toNat), 0) := by unfold dtV; rw [if_neg (by omega), if_neg (by omega), if_neg (by omega)]
/-- A label holds no line break. -/
theorem nob_enc {r : Int} (h : ¬ r < 33) : NoB (Lib.encodeRune r) := by
  have key : ∀ (x : Int), 33 ≤ x → x ≤ 255 → x.toNat.toUInt8 ≠ 10 := fun x h1 h2 e => by
    have := congrArg UInt8.toNat e
    have e2 : x.toNat.toUInt8.toNat = x.toNat := by simp; omega
    rw [e2] at this
    have e3 : (10 : UInt8).toNat = 10 := rfl
    omega
  intro c hc
  unfold Lib.encodeRune Lib.encodeRuneZ at hc
  split at hc
  · simp at hc; subst hc; exact key r (by omega) (by omega)
  · split at hc
    · simp at hc; rcases hc with rfl | rfl
      · exact key _ (by omega) (by omega)
      · exact key _ (by omega) (by omega)
    · split at hc
      · simp at hc; rcases hc with rfl | rfl | rfl
        · exact key _ (by omega) (by omega)
        · exact key _ (by omega) (by omega)
        · exact key _ (by omega) (by omega)
      · split at hc
        · simp at hc; rcases hc with rfl | rfl | rfl | rfl
          · exact key _ (by omega) (by omega)
          · exact key _ (by omega) (by omega)
          · exact key _ (by omega) (by omega)
          · exact key _ (by omega) (by omega)
        · simp at hc; rcases hc with rfl | rfl | rfl <;> decide
theorem nob_lb (names : List Int) (x : Int) : NoB (lbV names x).1 := by
  unfold lbV
  split
  · exact nob_nil
  · split
    · exact nob_nil
    · rename_i h
      split
      · exact NoB.app (by unfold NoB; decide) (nob_enc (by omega))
      · exact nob_enc (by omega)
theorem nob_lbL (names : List Int) (k : Nat) : ∀ l ∈ lbL names k, NoB l := fun l hl => by
  unfold lbL at hl
  obtain ⟨x, -, rfl⟩ := List.mem_map.1 hl
  exact nob_lb names _

end Go.Proofs.YtbhdcgebcmgidaaDoor
