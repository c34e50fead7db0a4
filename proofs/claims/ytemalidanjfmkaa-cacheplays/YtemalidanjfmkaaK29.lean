/-
  Some texts of this seat, one behind the other.
-/
import Derived.Test.YtemalidanjfmkaaK2
import Derived.Test.YtemalidanjfmkaaK28
/-
  What a cache keeps, in plain words: the document's answer of layer 11.
-/
namespace Go.Proofs.Ytemalidanjfmkaa

/-- What is kept: the words and what was said of them, all beginnings, how often was told. -/
structure Cs where
  kind : Int
  k : Int
  o : Int
  most : Int
  ws : List (List Int)
  os : List (List Int)
  bg : List (List Int)
  hits : Int
  miss : Int
/-- Is v a beginning of w? -/
def begV (w v : List Int) : Bool := decide (v.length ≤ w.length ∧ w.take v.length = v)
/-- The first entry that tells. (P11.2) -/
def fndL (kd : Int) (w : List Int) : List (List Int) → List (List Int) → Option (List Int)
  | x :: xs, y :: ys => if kd = 1 ∧ x = w then some y else if kd = 2 ∧ begV x w = true then some (y.take w.length) else fndL kd w xs ys
  | _, _ => none
def findV (c : Cs) (w : List Int) : Option (List Int) := if c.kind = 2 ∧ w.length = 0 then some [] else fndL c.kind w c.ws c.os
/-- New's error. (P11.1) -/
def newE (kind k o most : Int) : Int :=
  if kind ≠ 1 ∧ kind ≠ 2 then 30 else if k < 1 ∨ 64 < k then 1 else if (kind = 1 ∧ o ≠ 2) ∨ o < 1 ∨ 64 < o then 33 else if most < 1 ∨ 1048576 < most then 3 else 0
def newV (kind k o most : Int) : Cs := ⟨kind, k, o, most, [], [], [[]], 0, 0⟩
/-- Is otherwise kept of the beginning of so many symbols? -/
def clsA (c : Cs) (w out : List Int) (i : Nat) : Bool := match findV c (w.take i) with
  | some y => (decide (c.kind = 1) && decide (i = w.length) && !decide (y = out)) || (decide (c.kind = 2) && !decide (y = out.take i))
  | none => false
def clsV (c : Cs) (w out : List Int) : Bool := (List.range (w.length + 1)).any (clsA c w out)
/-- All beginnings, with those of w. -/
def frs (w : List Int) : Nat → List (List Int) → List (List Int)
  | 0, f => f
  | n + 1, f => (fun g => if w.take n ∈ g then g else g ++ [w.take n]) (frs w n f)
def frsV (c : Cs) (w : List Int) : List (List Int) := frs w (w.length + 1) c.bg
/-- Put. (P11.3) -/
def putV (c : Cs) (w out : List Int) : Cs × Int :=
  if wdE w c.k ≠ 0 then (c, wdE w c.k)
  else if chkA ⟨1, w, ⟨c.kind, c.k, c.o, 0, [], []⟩⟩ ⟨1, out, []⟩ ≠ 0 then (c, chkA ⟨1, w, ⟨c.kind, c.k, c.o, 0, [], []⟩⟩ ⟨1, out, []⟩)
  else if clsV c w out = true then (c, 111)
  else if c.most < ((frsV c w).length : Int) then (c, 110)
  else ({ c with ws := c.ws ++ [w], os := c.os ++ [out], bg := frsV c w }, 0)
theorem fndL_step {kd : Int} {w : List Int} {xs ys : List (List Int)} {i : Nat} (hx : i < xs.length) (hy : i < ys.length) : fndL kd w (xs.drop i) (ys.drop i) = if kd = 1 ∧ xs[i] = w then some ys[i] else if kd = 2 ∧ begV xs[i] w = true then some (ys[i].take w.length) else fndL kd w (xs.drop (i + 1)) (ys.drop (i + 1)) := by
  rw [List.drop_eq_getElem_cons hx, List.drop_eq_getElem_cons hy, fndL]
theorem fndL_end {kd : Int} {w : List Int} {xs ys : List (List Int)} {i : Nat} (h : ¬ i < xs.length) : fndL kd w (xs.drop i) (ys.drop i) = none := by
  rw [List.drop_eq_nil_of_le (by omega)]; rfl

end Go.Proofs.Ytemalidanjfmkaa

/-
  What a cache keeps: what follows. Plain words.
-/
namespace Go.Proofs.Ytemalidanjfmkaa

theorem fndL_app (kd : Int) (u : List Int) : ∀ (xs ys : List (List Int)) (x y : List Int), xs.length = ys.length → fndL kd u (xs ++ [x]) (ys ++ [y]) = (fndL kd u xs ys).orElse fun _ => fndL kd u [x] [y]
  | [], [], x, y, _ => rfl
  | a :: xs, b :: ys, x, y, h => by
    rw [List.cons_append, List.cons_append, fndL, fndL]
    split
    · rfl
    · split
      · rfl
      · exact fndL_app kd u xs ys x y (by simpa using h)
theorem begV_self (w : List Int) : begV w w = true := by unfold begV; simp
theorem begV_nil (w : List Int) : begV w [] = true := by unfold begV; simp
/-- An error changes nothing. -/
theorem put_err {c : Cs} {w out : List Int} (h : (putV c w out).2 ≠ 0) : (putV c w out).1 = c := by
  unfold putV at h ⊢
  split at h
  · rename_i h1; rw [if_pos h1]
  · rename_i h1
    rw [if_neg h1]
    split at h
    · rename_i h2; rw [if_pos h2]
    · rename_i h2
      rw [if_neg h2]
      split at h
      · rename_i h3; rw [if_pos h3]
      · rename_i h3
        rw [if_neg h3]
        split at h
        · rename_i h4; rw [if_pos h4]
        · exact absurd rfl h
/-- What Put leaves when it keeps. -/
theorem put_ok {c : Cs} {w out : List Int} (h : (putV c w out).2 = 0) :
    (putV c w out).1 = { c with ws := c.ws ++ [w], os := c.os ++ [out], bg := frsV c w } ∧ wdE w c.k = 0 ∧ chkA ⟨1, w, ⟨c.kind, c.k, c.o, 0, [], []⟩⟩ ⟨1, out, []⟩ = 0 ∧ clsV c w out = false ∧ ((frsV c w).length : Int) ≤ c.most := by
  unfold putV at h ⊢
  by_cases h1 : wdE w c.k ≠ 0
  · rw [if_pos h1] at h; exact absurd h h1
  rw [if_neg h1] at h ⊢
  by_cases h2 : chkA ⟨1, w, ⟨c.kind, c.k, c.o, 0, [], []⟩⟩ ⟨1, out, []⟩ ≠ 0
  · rw [if_pos h2] at h; exact absurd h h2
  rw [if_neg h2] at h ⊢
  by_cases h3 : clsV c w out = true
  · rw [if_pos h3] at h; exact absurd (show (111 : Int) = 0 from h) (by decide)
  rw [if_neg h3] at h ⊢
  by_cases h4 : c.most < ((frsV c w).length : Int)
  · rw [if_pos h4] at h; exact absurd (show (110 : Int) = 0 from h) (by decide)
  rw [if_neg h4]
  exact ⟨rfl, by simpa using h1, by simpa using h2, by simpa using h3, by omega⟩
/-- What is told is told from then on. -/
theorem find_keep {c : Cs} {w out u y : List Int} (hl : c.ws.length = c.os.length) (h : (putV c w out).2 = 0) (hu : findV c u = some y) : findV (putV c w out).1 u = some y := by
  rw [(put_ok h).1]
  unfold findV at hu ⊢
  by_cases h0 : c.kind = 2 ∧ u.length = 0
  · rw [if_pos h0] at hu ⊢; exact hu
  · rw [if_neg h0] at hu ⊢
    show fndL c.kind u (c.ws ++ [w]) (c.os ++ [out]) = some y
    rw [fndL_app c.kind u c.ws c.os w out hl, hu]
    rfl
theorem cls_no {c : Cs} {w out : List Int} (h : clsV c w out = false) {i : Nat} (hi : i ≤ w.length) : clsA c w out i = false := by
  unfold clsV at h
  rw [List.any_eq_false] at h
  have := h i (List.mem_range.2 (by omega))
  simpa using this
theorem chk_out {v out : List Int} {kind k o : Int} (h : chkA ⟨1, v, ⟨kind, k, o, 0, [], []⟩⟩ ⟨1, out, []⟩ = 0) : (kind = 1 ∧ out.length = 1) ∨ (kind = 2 ∧ out.length = v.length) := by
  unfold chkA at h
  rw [if_neg (by simp), if_neg (by simp)] at h
  refine Classical.byContradiction fun c => ?_
  rw [if_neg] at h
  · exact absurd h (by decide)
  · rintro ⟨-, -, ⟨h1, h2, -⟩ | ⟨h1, h2, -⟩⟩
    · exact c (.inl ⟨h1, h2⟩)
    · exact c (.inr ⟨h1, h2⟩)
/-- What was Put is told. -/
theorem find_put {c : Cs} {w out : List Int} (hl : c.ws.length = c.os.length) (h : (putV c w out).2 = 0) : findV (putV c w out).1 w = some out := by
  obtain ⟨e, h1, h2, h3, h4⟩ := put_ok h
  have hca := cls_no h3 (Nat.le_refl w.length)
  rw [e]
  unfold findV
  show (if c.kind = 2 ∧ w.length = 0 then some [] else fndL c.kind w (c.ws ++ [w]) (c.os ++ [out])) = some out
  rcases chk_out h2 with ⟨hk, ho⟩ | ⟨hk, ho⟩
  · rw [if_neg (by omega), fndL_app c.kind w c.ws c.os w out hl]
    unfold clsA at hca
    rw [List.take_length] at hca
    have hf : findV c w = fndL c.kind w c.ws c.os := by unfold findV; rw [if_neg (by omega)]
    rw [hf] at hca
    cases hff : fndL c.kind w c.ws c.os with
    | none => simp [fndL, hk]
    | some y =>
      rw [hff] at hca
      simp [hk] at hca
      simp [hca]
  · by_cases h0 : w.length = 0
    · rw [if_pos ⟨hk, h0⟩]
      rw [h0] at ho
      rw [List.length_eq_zero_iff.1 ho]
    · rw [if_neg (fun c => h0 c.2), fndL_app c.kind w c.ws c.os w out hl]
      unfold clsA at hca
      rw [List.take_length] at hca
      have hf : findV c w = fndL c.kind w c.ws c.os := by unfold findV; rw [if_neg (fun c => h0 c.2)]
      rw [hf] at hca
      cases hff : fndL c.kind w c.ws c.os with
      | none => simp [fndL, hk, begV_self, ← ho]
      | some y =>
        rw [hff] at hca
        simp [hk, ← ho] at hca
        simp [hca]
/-- All beginnings. -/
theorem frs_mem (w : List Int) : ∀ (n : Nat) (f : List (List Int)) (u : List Int), u ∈ frs w n f ↔ u ∈ f ∨ ∃ i, i < n ∧ u = w.take i
  | 0, f, u => by simp [frs]
  | n + 1, f, u => by
    rw [frs]
    have ih := frs_mem w n f
    by_cases h : w.take n ∈ frs w n f
    · simp only [if_pos h]
      rw [ih]
      constructor
      · rintro (h1 | ⟨i, hi, rfl⟩)
        · exact .inl h1
        · exact .inr ⟨i, by omega, rfl⟩
      · rintro (h1 | ⟨i, hi, rfl⟩)
        · exact .inl h1
        · by_cases c : i = n
          · subst c; exact (ih _).1 h
          · exact .inr ⟨i, by omega, rfl⟩
    · simp only [if_neg h]
      rw [List.mem_append, ih, List.mem_singleton]
      constructor
      · rintro ((h1 | ⟨i, hi, rfl⟩) | rfl)
        · exact .inl h1
        · exact .inr ⟨i, by omega, rfl⟩
        · exact .inr ⟨n, by omega, rfl⟩
      · rintro (h1 | ⟨i, hi, rfl⟩)
        · exact .inl (.inl h1)
        · by_cases c : i = n
          · subst c; exact .inr rfl
          · exact .inl (.inr ⟨i, by omega, rfl⟩)
theorem frs_nodup (w : List Int) : ∀ (n : Nat) (f : List (List Int)), f.Nodup → (frs w n f).Nodup
  | 0, f, h => h
  | n + 1, f, h => by
    rw [frs]
    have ih := frs_nodup w n f h
    by_cases c : w.take n ∈ frs w n f
    · simp only [if_pos c]; exact ih
    · simp only [if_neg c]
      rw [List.nodup_append]
      refine ⟨ih, by simp, fun a ha b hb e => ?_⟩
      rw [List.mem_singleton] at hb
      subst hb; subst e
      exact c ha
theorem frs_pre (w : List Int) : ∀ (n : Nat) (f : List (List Int)), ∃ g, frs w n f = f ++ g
  | 0, f => ⟨[], by simp [frs]⟩
  | n + 1, f => by
    obtain ⟨g, hg⟩ := frs_pre w n f
    rw [frs]
    by_cases c : w.take n ∈ frs w n f
    · simp only [if_pos c]; exact ⟨g, hg⟩
    · simp only [if_neg c]; exact ⟨g ++ [w.take n], by rw [hg]; simp⟩

end Go.Proofs.Ytemalidanjfmkaa

/-
  Words in one row that know one another by their places: what such a row is, how a place is found, one word more. Plain words.
-/
namespace Go.Proofs.Ytemalidanjfmkaa

/-- An entry: its parent, its symbol, its first child, the next one, what is known. -/
structure En where
  p : Nat
  s : Int
  c : Nat
  n : Nat
  kn : Bool
  la : Int
def en0 : En := ⟨0, 0, 0, 0, false, 0⟩
def ea (R : List En) (i : Nat) : En := R.getD i en0
/-- The word at a place. -/
def wa (bg : List (List Int)) (i : Nat) : List Int := bg.getD i []
def Kid (R : List En) (a y : Nat) : Prop := 0 < y ∧ y < R.length ∧ (ea R y).p = a
/-- y is the child of a with the least symbol above t; or none. -/
def Fst (R : List En) (a : Nat) (t : Int) (y : Nat) : Prop :=
  (y = 0 ∧ ∀ z, Kid R a z → (ea R z).s ≤ t) ∨ (Kid R a y ∧ t < (ea R y).s ∧ ∀ z, Kid R a z → t < (ea R z).s → (ea R y).s ≤ (ea R z).s)
/-- A row stands for words. -/
structure Tr (R : List En) (bg : List (List Int)) : Prop where
  len : R.length = bg.length
  pos : 0 < R.length
  root : wa bg 0 = []
  nd : bg.Nodup
  par : ∀ i, 0 < i → i < R.length → (ea R i).p < i ∧ wa bg i = wa bg (ea R i).p ++ [(ea R i).s]
  sy : ∀ i, 0 < i → i < R.length → 0 ≤ (ea R i).s ∧ (ea R i).s < 64
  ch : ∀ a, a < R.length → Fst R a (-1) (ea R a).c
  nx : ∀ x, 0 < x → x < R.length → Fst R (ea R x).p (ea R x).s (ea R x).n
theorem wa_mem {bg : List (List Int)} {i : Nat} (h : i < bg.length) : wa bg i ∈ bg := by
  unfold wa; rw [List.getD_eq_getElem?_getD, List.getElem?_eq_getElem h]; exact List.getElem_mem h
theorem mem_wa {bg : List (List Int)} {u : List Int} (h : u ∈ bg) : ∃ i, i < bg.length ∧ wa bg i = u := by
  obtain ⟨i, hi, e⟩ := List.mem_iff_getElem.1 h
  exact ⟨i, hi, by unfold wa; rw [List.getD_eq_getElem?_getD, List.getElem?_eq_getElem hi]; exact e⟩
theorem wa_inj {bg : List (List Int)} (h : bg.Nodup) {i j : Nat} (hi : i < bg.length) (hj : j < bg.length) (e : wa bg i = wa bg j) : i = j := by
  unfold wa at e
  rw [List.getD_eq_getElem?_getD, List.getElem?_eq_getElem hi, List.getD_eq_getElem?_getD, List.getElem?_eq_getElem hj] at e
  exact (List.getElem_inj h).1 e
theorem wa_left {bg : List (List Int)} {u : List Int} {i : Nat} (h : i < bg.length) : wa (bg ++ [u]) i = wa bg i := by
  unfold wa; rw [List.getD_eq_getElem?_getD, List.getD_eq_getElem?_getD, List.getElem?_append_left h]
theorem wa_new {bg : List (List Int)} {u : List Int} : wa (bg ++ [u]) bg.length = u := by unfold wa; simp
theorem snoc_inj {u v : List Int} {x y : Int} (h : u ++ [x] = v ++ [y]) : u = v ∧ x = y := by
  have := List.append_inj' h rfl
  exact ⟨this.1, by simpa using this.2⟩
section
variable {R : List En} {bg : List (List Int)}
theorem Tr.plt (T : Tr R bg) {i : Nat} (h : 0 < i) (hi : i < R.length) : (ea R i).p < R.length := by have := (T.par i h hi).1; omega
theorem Tr.inj (T : Tr R bg) {i j : Nat} (hi : i < R.length) (hj : j < R.length) (e : wa bg i = wa bg j) : i = j := wa_inj T.nd (T.len ▸ hi) (T.len ▸ hj) e
/-- A child by its word. -/
theorem Tr.kid_of (T : Tr R bg) {a y : Nat} {x : Int} (ha : a < R.length) (hy : y < R.length) (e : wa bg y = wa bg a ++ [x]) : Kid R a y ∧ (ea R y).s = x := by
  have h0 : 0 < y := by
    rcases Nat.eq_zero_or_pos y with h | h
    · subst h; rw [T.root] at e; simp at e
    · exact h
  obtain ⟨h1, h2⟩ := T.par y h0 hy
  rw [h2] at e
  obtain ⟨e1, e2⟩ := snoc_inj e
  exact ⟨⟨h0, hy, T.inj (by omega) ha e1⟩, e2⟩
theorem Tr.kid_word (T : Tr R bg) {a y : Nat} (h : Kid R a y) : wa bg y = wa bg a ++ [(ea R y).s] := by
  obtain ⟨h0, h1, rfl⟩ := h
  exact (T.par y h0 h1).2
theorem Tr.kid_one (T : Tr R bg) {a y z : Nat} (hy : Kid R a y) (hz : Kid R a z) (e : (ea R y).s = (ea R z).s) : y = z :=
  T.inj hy.2.1 hz.2.1 (by rw [T.kid_word hy, T.kid_word hz, e])
theorem Tr.kid_none (T : Tr R bg) {a : Nat} {x : Int} (hn : wa bg a ++ [x] ∉ bg) : ∀ z, Kid R a z → (ea R z).s ≠ x := fun z hz e =>
  hn (by rw [← e, ← T.kid_word hz]; exact wa_mem (T.len ▸ hz.2.1))
/-- Beginnings of words are words. -/
theorem Tr.pre (T : Tr R bg) : ∀ (n i : Nat), i ≤ n → i < R.length → ∀ j, (wa bg i).take j ∈ bg
  | n, 0, _, hi, j => by rw [T.root]; simp; rw [← T.root]; exact wa_mem (T.len ▸ hi)
  | 0, i + 1, h, _, _ => by omega
  | n + 1, i + 1, h, hi, j => by
    obtain ⟨h1, h2⟩ := T.par (i + 1) (by omega) hi
    by_cases c : (wa bg (i + 1)).length ≤ j
    · rw [List.take_of_length_le c]; exact wa_mem (T.len ▸ hi)
    · have := Tr.pre T n (ea R (i + 1)).p (by omega) (by omega) j
      rw [h2] at c ⊢
      rw [List.take_append_of_le_length (by simp at c; omega)]
      exact this
theorem Tr.pref (T : Tr R bg) {u : List Int} (h : u ∈ bg) (j : Nat) : u.take j ∈ bg := by
  obtain ⟨i, hi, rfl⟩ := mem_wa h
  exact T.pre i i (Nat.le_refl _) (by rw [T.len]; exact hi) j
theorem Tr.nil_mem (T : Tr R bg) : [] ∈ bg := by rw [← T.root]; exact wa_mem (T.len ▸ T.pos)
/-- How far a search among children has come. -/
def Goi (R : List En) (a : Nat) (x : Int) (bf bh : Nat) : Prop := (bf = 0 ∧ bh = (ea R a).c) ∨ (Kid R a bf ∧ (ea R bf).s < x ∧ (ea R bf).n = bh)
theorem Fst.lt {a y : Nat} {t : Int} (h : Fst R a t y) (hp : 0 < R.length) : y < R.length := by
  rcases h with ⟨rfl, -⟩ | ⟨h, -⟩
  · exact hp
  · exact h.2.1
theorem Fst.kid {a y : Nat} {t : Int} (h : Fst R a t y) (hy : y ≠ 0) : Kid R a y ∧ t < (ea R y).s := by
  rcases h with ⟨rfl, -⟩ | ⟨h, h2, -⟩
  · exact absurd rfl hy
  · exact ⟨h, h2⟩
theorem Goi.fst (T : Tr R bg) {a bf bh : Nat} {x : Int} (ha : a < R.length) (h : Goi R a x bf bh) : ∃ t, Fst R a t bh ∧ (t = -1 ∨ t < x) := by
  rcases h with ⟨rfl, rfl⟩ | ⟨h1, h2, rfl⟩
  · exact ⟨-1, T.ch a ha, .inl rfl⟩
  · have := T.nx bf h1.1 h1.2.1
    rw [h1.2.2] at this
    exact ⟨_, this, .inr h2⟩
theorem Goi.bh (T : Tr R bg) {a bf bh : Nat} {x : Int} (ha : a < R.length) (h : Goi R a x bf bh) : bh < R.length ∧ (bh ≠ 0 → Kid R a bh) := by
  obtain ⟨t, h1, -⟩ := h.fst T ha
  exact ⟨h1.lt T.pos, fun c => (h1.kid c).1⟩
theorem Goi.next (T : Tr R bg) {a bf bh : Nat} {x : Int} (ha : a < R.length) (h : Goi R a x bf bh) (h0 : bh ≠ 0) (hx : (ea R bh).s < x) : Goi R a x bh (ea R bh).n :=
  .inr ⟨(h.bh T ha).2 h0, hx, rfl⟩
/-- What is left to look at. -/
def msr (R : List En) (y : Nat) : Nat := if y = 0 then 0 else (65 - (ea R y).s).toNat
theorem Tr.msr_lt (T : Tr R bg) {a bf bh : Nat} {x : Int} (ha : a < R.length) (h : Goi R a x bf bh) (h0 : bh ≠ 0) : msr R (ea R bh).n < msr R bh := by
  have hk := (h.bh T ha).2 h0
  have h1 := T.nx bh hk.1 hk.2.1
  have h2 := T.sy bh hk.1 hk.2.1
  unfold msr
  rw [if_neg h0]
  by_cases c : (ea R bh).n = 0
  · rw [if_pos c]; omega
  · rw [if_neg c]
    have := (h1.kid c).2
    omega
/-- Where the search ends. -/
theorem Goi.end (T : Tr R bg) {a bf bh : Nat} {x : Int} (ha : a < R.length) (h : Goi R a x bf bh) (he : bh = 0 ∨ x ≤ (ea R bh).s) : Fst R a (x - 1) bh := by
  obtain ⟨t, h1, ht⟩ := h.fst T ha
  rcases h1 with ⟨rfl, h1⟩ | ⟨h1, h2, h3⟩
  · refine .inl ⟨rfl, fun z hz => ?_⟩
    have h2 := h1 z hz
    have h3 := T.sy z hz.1 hz.2.1
    omega
  · have hx : x ≤ (ea R bh).s := by
      rcases he with he | he
      · have := h1.1; omega
      · exact he
    refine .inr ⟨h1, by omega, fun z hz c => h3 z hz ?_⟩
    have h4 := T.sy z hz.1 hz.2.1
    omega
/-- The child by x. -/
theorem Fst.by (T : Tr R bg) {a y : Nat} {x : Int} (h : Fst R a (x - 1) y) : (y ≠ 0 ∧ (ea R y).s = x ∧ y < R.length ∧ wa bg y = wa bg a ++ [x]) ∨ ((y = 0 ∨ (ea R y).s ≠ x) ∧ ∀ (_ : a < R.length), wa bg a ++ [x] ∉ bg) := by
  have nm : (∀ z, Kid R a z → (ea R z).s ≠ x) → a < R.length → wa bg a ++ [x] ∉ bg := fun hz ha hm => by
    obtain ⟨i, hi, e⟩ := mem_wa hm
    obtain ⟨k1, k2⟩ := T.kid_of ha (by rw [T.len]; exact hi) e
    exact hz i k1 k2
  rcases h with ⟨rfl, h1⟩ | ⟨h1, h2, h3⟩
  · exact .inr ⟨.inl rfl, nm fun z hz e => by have := h1 z hz; omega⟩
  · by_cases c : (ea R y).s = x
    · exact .inl ⟨by have := h1.1; omega, c, h1.2.1, by rw [T.kid_word h1, c]⟩
    · exact .inr ⟨.inr c, nm fun z hz e => by have := h3 z hz (by omega); omega⟩
end
/-- One word more. -/
def addE (R : List En) (a : Nat) (x : Int) (bf bh : Nat) : List En :=
  if bf = 0 then (R ++ [En.mk a x 0 bh false 0]).set a { ea R a with c := R.length } else (R ++ [En.mk a x 0 bh false 0]).set bf { ea R bf with n := R.length }
theorem ea_left {R : List En} {e : En} {i : Nat} (h : i < R.length) : ea (R ++ [e]) i = ea R i := by
  unfold ea; rw [List.getD_eq_getElem?_getD, List.getD_eq_getElem?_getD, List.getElem?_append_left h]
theorem ea_new {R : List En} {e : En} : ea (R ++ [e]) R.length = e := by unfold ea; simp
theorem ea_set {R : List En} {e : En} {i j : Nat} (hi : i < R.length) : ea (R.set i e) j = if j = i then e else ea R j := by
  unfold ea
  rw [List.getD_eq_getElem?_getD, List.getElem?_set, List.getD_eq_getElem?_getD]
  by_cases c : j = i
  · subst c; simp [hi]
  · rw [if_neg (fun e => c e.symm), if_neg c]
theorem addE_len (R : List En) (a : Nat) (x : Int) (bf bh : Nat) : (addE R a x bf bh).length = R.length + 1 := by unfold addE; split <;> simp
section
variable {R : List En} {bg : List (List Int)} {a bf bh : Nat} {x : Int}
theorem addE_new (ha : a < R.length) (hb : bf < R.length) : ea (addE R a x bf bh) R.length = ⟨a, x, 0, bh, false, 0⟩ := by
  unfold addE
  split
  · rw [ea_set (by simp; omega), if_neg (by omega), ea_new]
  · rw [ea_set (by simp; omega), if_neg (by omega), ea_new]
theorem addE_old (ha : a < R.length) (hb : bf < R.length) {i : Nat} (hi : i < R.length) : (ea (addE R a x bf bh) i).p = (ea R i).p ∧ (ea (addE R a x bf bh) i).s = (ea R i).s ∧ (ea (addE R a x bf bh) i).kn = (ea R i).kn ∧ (ea (addE R a x bf bh) i).la = (ea R i).la ∧
    (ea (addE R a x bf bh) i).c = (if bf = 0 ∧ i = a then R.length else (ea R i).c) ∧ (ea (addE R a x bf bh) i).n = (if bf ≠ 0 ∧ i = bf then R.length else (ea R i).n) := by
  unfold addE
  by_cases c : bf = 0
  · simp only [if_pos c]
    rw [ea_set (by simp; omega)]
    by_cases d : i = a
    · subst d; simp [c]
    · rw [if_neg d, ea_left hi]; simp [c, d]
  · simp only [if_neg c]
    rw [ea_set (by simp; omega)]
    by_cases d : i = bf
    · subst d; simp [c]
    · rw [if_neg d, ea_left hi]; simp [c, d]
theorem Kid.add (ha : a < R.length) (hb : bf < R.length) (b z : Nat) : Kid (addE R a x bf bh) b z ↔ Kid R b z ∨ (z = R.length ∧ b = a) := by
  unfold Kid
  rw [addE_len]
  constructor
  · rintro ⟨h1, h2, h3⟩
    by_cases c : z < R.length
    · exact .inl ⟨h1, c, by rw [← h3]; exact (addE_old ha hb c).1.symm⟩
    · obtain rfl : z = R.length := by omega
      rw [addE_new ha hb] at h3
      exact .inr ⟨rfl, h3.symm⟩
  · rintro (⟨h1, h2, h3⟩ | ⟨rfl, rfl⟩)
    · exact ⟨h1, by omega, by rw [(addE_old ha hb h2).1]; exact h3⟩
    · exact ⟨by omega, by omega, by rw [addE_new ha hb]⟩
theorem Tr.add (T : Tr R bg) (ha : a < R.length) (hg : Goi R a x bf bh) (hf : Fst R a (x - 1) bh) (hn : wa bg a ++ [x] ∉ bg) (x0 : 0 ≤ x) (x1 : x < 64) : Tr (addE R a x bf bh) (bg ++ [wa bg a ++ [x]]) := by
  have hb : bf < R.length := by
    rcases hg with ⟨rfl, -⟩ | ⟨h, -⟩
    · exact T.pos
    · exact h.2.1
  have K := Kid.add (R := R) (x := x) (bh := bh) ha hb
  have N := addE_new (R := R) (x := x) (bh := bh) ha hb
  have O := fun {i} (hi : i < R.length) => addE_old (R := R) (x := x) (bh := bh) ha hb hi
  have L := addE_len R a x bf bh
  have hno := T.kid_none hn
  -- between the last lesser one and the next there is nothing
  have btw : bf ≠ 0 → ∀ z, Kid R a z → (ea R z).s < x → (ea R z).s ≤ (ea R bf).s := fun h0 z hz hzx => by
    rcases hg with ⟨rfl, -⟩ | ⟨k1, k2, k3⟩
    · exact absurd rfl h0
    · have h1 := T.nx bf k1.1 k1.2.1
      rw [k1.2.2, k3] at h1
      rcases h1 with ⟨-, h1⟩ | ⟨h1, h2, h3⟩
      · exact h1 z hz
      · refine Classical.byContradiction fun c => ?_
        have h4 := h3 z hz (by omega)
        have h5 := hf.kid (by have := h1.1; omega)
        omega
  have low : bf = 0 → ∀ z, Kid R a z → x < (ea R z).s := fun h0 z hz => by
    rcases hg with ⟨-, e⟩ | ⟨k1, -⟩
    · have h1 := T.ch a ha
      rw [← e] at h1
      have h6 := hno z hz
      have h7 := T.sy z hz.1 hz.2.1
      rcases h1 with ⟨-, h1⟩ | ⟨h1, h2, h3⟩
      · have := h1 z hz; omega
      · have h4 := h3 z hz (by omega)
        have h5 := hf.kid (by have := h1.1; omega)
        omega
    · have := k1.1; omega
  have bfk : bf ≠ 0 → Kid R a bf ∧ (ea R bf).s < x := fun h0 => by
    rcases hg with ⟨rfl, -⟩ | ⟨k1, k2, -⟩
    · exact absurd rfl h0
    · exact ⟨k1, k2⟩
  have Sn : (ea (addE R a x bf bh) R.length).s = x := by rw [N]
  have So : ∀ z, z < R.length → (ea (addE R a x bf bh) z).s = (ea R z).s := fun z hz => (O hz).2.1
  -- the same child where nothing new comes between
  have same : ∀ (b : Nat) (t : Int) (y : Nat), Fst R b t y → (b = a → t < x → y ≠ 0 ∧ (ea R y).s ≤ x) → Fst (addE R a x bf bh) b t y := fun b t y h hx => by
    rcases h with ⟨rfl, h1⟩ | ⟨h1, h2, h3⟩
    · refine .inl ⟨rfl, fun z hz => ?_⟩
      rcases (K b z).1 hz with hz | ⟨rfl, rfl⟩
      · rw [So z hz.2.1]; exact h1 z hz
      · rw [Sn]
        refine Classical.byContradiction fun c => ?_
        exact (hx rfl (by omega)).1 rfl
    · refine .inr ⟨(K b y).2 (.inl h1), by rw [So y h1.2.1]; exact h2, fun z hz hzt => ?_⟩
      rw [So y h1.2.1]
      rcases (K b z).1 hz with hz | ⟨rfl, rfl⟩
      · rw [So z hz.2.1] at hzt ⊢; exact h3 z hz hzt
      · rw [Sn] at hzt ⊢; exact (hx rfl hzt).2
  refine ⟨by rw [L]; simp [T.len], by rw [L]; omega, ?_, ?_, fun i h0 hi => ?_, fun i h0 hi => ?_, fun b hb' => ?_, fun y h0 hy => ?_⟩
  · rw [wa_left (T.len ▸ T.pos)]; exact T.root
  · rw [List.nodup_append]
    refine ⟨T.nd, by simp, fun u hu v hv e => ?_⟩
    rw [List.mem_singleton] at hv
    subst hv; subst e
    exact hn hu
  · rw [L] at hi
    by_cases c : i < R.length
    · obtain ⟨h1, h2⟩ := T.par i h0 c
      rw [(O c).1, (O c).2.1]
      exact ⟨h1, by rw [wa_left (T.len ▸ c), wa_left (by rw [← T.len]; omega)]; exact h2⟩
    · obtain rfl : i = R.length := by omega
      rw [N]
      refine ⟨ha, ?_⟩
      show wa _ R.length = wa _ a ++ [x]
      rw [show wa (bg ++ [wa bg a ++ [x]]) R.length = wa bg a ++ [x] by rw [T.len, wa_new], wa_left (T.len ▸ ha)]
  · rw [L] at hi
    by_cases c : i < R.length
    · rw [So i c]; exact T.sy i h0 c
    · obtain rfl : i = R.length := by omega
      rw [Sn]; exact ⟨x0, x1⟩
  · rw [L] at hb'
    by_cases c : b < R.length
    · rw [(O c).2.2.2.2.1]
      split
      · rename_i h
        obtain ⟨h1, rfl⟩ := h
        refine .inr ⟨(K b R.length).2 (.inr ⟨rfl, rfl⟩), by rw [Sn]; omega, fun z hz _ => ?_⟩
        rw [Sn]
        rcases (K b z).1 hz with hz | ⟨rfl, -⟩
        · rw [So z hz.2.1]; have := low h1 z hz; omega
        · rw [Sn]; exact Int.le_refl _
      · rename_i h
        refine same b (-1) _ (T.ch b c) fun hba _ => ?_
        subst hba
        have h1 : bf ≠ 0 := fun e => h ⟨e, rfl⟩
        obtain ⟨k1, k2⟩ := bfk h1
        have h3 := T.ch b c
        have h5 := T.sy bf k1.1 k1.2.1
        rcases h3 with ⟨-, h3⟩ | ⟨h3, -, h4⟩
        · have := h3 bf k1; omega
        · have := h4 bf k1 (by omega)
          exact ⟨by have := h3.1; omega, by omega⟩
    · obtain rfl : b = R.length := by omega
      rw [N]
      refine .inl ⟨rfl, fun z hz => ?_⟩
      rcases (K R.length z).1 hz with hz | ⟨-, h⟩
      · have := (T.par z hz.1 hz.2.1).1
        have h2 := hz.2.2
        have h3 := hz.2.1
        omega
      · omega
  · rw [L] at hy
    by_cases c : y < R.length
    · rw [(O c).1, (O c).2.1, (O c).2.2.2.2.2]
      split
      · rename_i h
        obtain ⟨h1, rfl⟩ := h
        obtain ⟨k1, k2⟩ := bfk h1
        rw [k1.2.2]
        refine .inr ⟨(K a R.length).2 (.inr ⟨rfl, rfl⟩), by rw [Sn]; exact k2, fun z hz hzt => ?_⟩
        rw [Sn]
        rcases (K a z).1 hz with hz | ⟨rfl, -⟩
        · rw [So z hz.2.1] at hzt ⊢
          refine Classical.byContradiction fun c => ?_
          have := btw h1 z hz (by omega)
          omega
        · rw [Sn]; exact Int.le_refl _
      · rename_i h
        refine same _ _ _ (T.nx y h0 c) fun hpa hlt => ?_
        have ky : Kid R a y := ⟨h0, c, hpa⟩
        by_cases h1 : bf = 0
        · have := low h1 y ky; omega
        · have hyb : y ≠ bf := fun e => h ⟨h1, e⟩
          obtain ⟨k1, k2⟩ := bfk h1
          have h2 := btw h1 y ky hlt
          have h3 : (ea R y).s ≠ (ea R bf).s := fun e => hyb (T.kid_one ky k1 e)
          have h4 := T.nx y h0 c
          rw [hpa] at h4
          rcases h4 with ⟨-, h4⟩ | ⟨h4, -, h5⟩
          · have := h4 bf k1; omega
          · have := h5 bf k1 (by omega)
            exact ⟨by have := h4.1; omega, by omega⟩
    · obtain rfl : y = R.length := by omega
      rw [N]
      show Fst _ a x bh
      rcases hf with ⟨rfl, h1⟩ | ⟨h1, h2, h3⟩
      · refine .inl ⟨rfl, fun z hz => ?_⟩
        rcases (K a z).1 hz with hz | ⟨rfl, -⟩
        · rw [So z hz.2.1]; have := h1 z hz; omega
        · rw [Sn]; exact Int.le_refl _
      · refine .inr ⟨(K a bh).2 (.inl h1), by rw [So bh h1.2.1]; have := hno bh h1; omega, fun z hz hzt => ?_⟩
        rw [So bh h1.2.1]
        rcases (K a z).1 hz with hz | ⟨rfl, -⟩
        · rw [So z hz.2.1] at hzt ⊢; exact h3 z hz (by omega)
        · rw [Sn] at hzt; omega
end
/-- A row of the same shape. -/
theorem Tr.same {R R' : List En} {bg : List (List Int)} (T : Tr R bg) (hl : R'.length = R.length) (h : ∀ i, i < R.length → (ea R' i).p = (ea R i).p ∧ (ea R' i).s = (ea R i).s ∧ (ea R' i).c = (ea R i).c ∧ (ea R' i).n = (ea R i).n) : Tr R' bg := by
  have K : ∀ b z, Kid R' b z ↔ Kid R b z := fun b z => by
    unfold Kid
    rw [hl]
    constructor
    · rintro ⟨h1, h2, h3⟩; exact ⟨h1, h2, by rw [← (h z h2).1]; exact h3⟩
    · rintro ⟨h1, h2, h3⟩; exact ⟨h1, h2, by rw [(h z h2).1]; exact h3⟩
  have F : ∀ b t y, Fst R b t y → Fst R' b t y := fun b t y hf => by
    rcases hf with ⟨rfl, h1⟩ | ⟨h1, h2, h3⟩
    · exact .inl ⟨rfl, fun z hz => by rw [(h z ((K b z).1 hz).2.1).2.1]; exact h1 z ((K b z).1 hz)⟩
    · refine .inr ⟨(K b y).2 h1, by rw [(h y h1.2.1).2.1]; exact h2, fun z hz hzt => ?_⟩
      have hz' := (K b z).1 hz
      rw [(h z hz'.2.1).2.1] at hzt ⊢
      rw [(h y h1.2.1).2.1]
      exact h3 z hz' hzt
  refine ⟨by rw [hl]; exact T.len, by rw [hl]; exact T.pos, T.root, T.nd, fun i h0 hi => ?_, fun i h0 hi => ?_, fun b hb => ?_, fun y h0 hy => ?_⟩
  · rw [hl] at hi; rw [(h i hi).1, (h i hi).2.1]; exact T.par i h0 hi
  · rw [hl] at hi; rw [(h i hi).2.1]; exact T.sy i h0 hi
  · rw [hl] at hb; rw [(h b hb).2.2.1]; exact F _ _ _ (T.ch b hb)
  · rw [hl] at hy; rw [(h y hy).1, (h y hy).2.1, (h y hy).2.2.2]; exact F _ _ _ (T.nx y h0 hy)
theorem Tr.one (b : Bool) : Tr [⟨0, 0, 0, 0, b, 0⟩] [[]] := by
  have K : ∀ a z, ¬ Kid [⟨0, 0, 0, 0, b, 0⟩] a z := fun a z h => by
    have h1 := h.1
    have h2 := h.2.1
    simp at h2
    omega
  refine ⟨rfl, by simp, rfl, by simp, fun i h0 hi => ?_, fun i h0 hi => ?_, fun a ha => ?_, fun x h0 hi => ?_⟩
  · simp at hi; omega
  · simp at hi; omega
  · obtain rfl : a = 0 := by simpa using ha
    exact .inl ⟨rfl, fun z hz => absurd hz (K _ z)⟩
  · simp at hi; omega

end Go.Proofs.Ytemalidanjfmkaa

/-
  A row of words with notes stands for what a cache keeps. Plain words.
-/
namespace Go.Proofs.Ytemalidanjfmkaa

/-- What is noted of a word. -/
def NtOk (c : Cs) (u : List Int) (kn : Bool) (la : Int) : Prop := kn = (findV c u).isSome ∧ ∀ y, findV c u = some y → (c.kind = 1 → y = [la]) ∧ (c.kind = 2 → u ≠ [] → ∃ z, y = z ++ [la])
/-- What holds of each cache. -/
structure Pcs (c : Cs) : Prop where
  wl : c.ws.length = c.os.length
  kd : c.kind = 1 ∨ c.kind = 2
  ins : ∀ u y, findV c u = some y → u ∈ c.bg
  pre : c.kind = 2 → ∀ u y, findV c u = some y → y.length = u.length ∧ ∀ j, findV c (u.take j) = some (y.take j)
  all : c.kind = 2 → ∀ u, u ∈ c.bg → (findV c u).isSome = true
  room : (c.bg.length : Int) ≤ c.most
  k1 : 1 ≤ c.k
  k2 : c.k ≤ 64
  m1 : c.most ≤ 1048576
structure Ri (c : Cs) (R : List En) : Prop where
  pc : Pcs c
  tr : Tr R c.bg
  nt : ∀ i, i < R.length → NtOk c (wa c.bg i) (ea R i).kn (ea R i).la
/-- The places of a word's beginnings, as far as they stand in the row. -/
structure Pth (bg : List (List Int)) (w : List Int) (P : List Nat) : Prop where
  pos : 0 < P.length
  le : P.length ≤ w.length + 1
  at' : ∀ j, j < P.length → P.getD j 0 < bg.length ∧ wa bg (P.getD j 0) = w.take j
def PthE (bg : List (List Int)) (w : List Int) (P : List Nat) : Prop := Pth bg w P ∧ (P.length ≤ w.length → w.take P.length ∉ bg)
/-- What is made known of the beginning of so many symbols. -/
def nta (kd : Int) (w out : List Int) (i : Nat) : Bool × Int :=
  if kd = 2 then (if i = 0 then (false, 0) else (true, out.getD (i - 1) 0)) else (if i = w.length then (true, out.getD 0 0) else (false, 0))
def clE (e : En) (t : Bool × Int) : Bool := (e.kn && t.1) && !(decide (e.kn = t.1 ∧ e.la = t.2))
theorem clE_iff {e : En} {t : Bool × Int} : clE e t = true ↔ e.kn = true ∧ t.1 = true ∧ e.la ≠ t.2 := by
  unfold clE
  cases e.kn <;> cases t.1 <;> simp
section
variable {c : Cs} {R : List En} {w out : List Int} {P : List Nat}
theorem Pth.start (T : Tr R c.bg) (w : List Int) : Pth c.bg w [0] :=
  ⟨by simp, by simp, fun j hj => by
    obtain rfl : j = 0 := by simpa using hj
    exact ⟨by rw [← T.len]; exact T.pos, by simpa using T.root⟩⟩
theorem gdn_left {P : List Nat} {y j : Nat} (h : j < P.length) : (P ++ [y]).getD j 0 = P.getD j 0 := by
  rw [List.getD_eq_getElem?_getD, List.getD_eq_getElem?_getD, List.getElem?_append_left h]
theorem gdn_new {P : List Nat} {y : Nat} : (P ++ [y]).getD P.length 0 = y := by simp
theorem Pth.snoc {bg : List (List Int)} (h : Pth bg w P) (hl : P.length ≤ w.length) {y : Nat} (hy : y < bg.length) (e : wa bg y = w.take P.length) : Pth bg w (P ++ [y]) := by
  refine ⟨by simp, by simp; omega, fun j hj => ?_⟩
  by_cases d : j < P.length
  · rw [gdn_left d]; exact h.at' j d
  · obtain rfl : j = P.length := by simp at hj; omega
    rw [gdn_new]; exact ⟨hy, e⟩
theorem Pth.mono {bg bg' : List (List Int)} (h : Pth bg w P) (hm : ∀ i, i < bg.length → i < bg'.length ∧ wa bg' i = wa bg i) : Pth bg' w P :=
  ⟨h.pos, h.le, fun j hj => ⟨(hm _ (h.at' j hj).1).1, by rw [(hm _ (h.at' j hj).1).2]; exact (h.at' j hj).2⟩⟩
theorem take_next {w : List Int} {j : Nat} (h : j < w.length) : w.take (j + 1) = w.take j ++ [w.getD j 0] := by
  rw [List.take_succ_eq_append_getElem h]
  simp [List.getD_eq_getElem?_getD, h]
/-- What is kept of w. -/
theorem Ri.find (I : Ri c R) (h : PthE c.bg w P) : (P.length ≤ w.length → findV c w = none) ∧ (w.length < P.length → (ea R (P.getD w.length 0)).kn = (findV c w).isSome) := by
  constructor
  · intro hl
    refine Option.eq_none_iff_forall_not_mem.2 fun y hy => h.2 hl ?_
    exact I.tr.pref (I.pc.ins w y hy) P.length
  · intro hl
    obtain ⟨h1, h2⟩ := h.1.at' w.length hl
    rw [List.take_length] at h2
    have := (I.nt _ (by rw [I.tr.len]; exact h1)).1
    rwa [h2] at this
/-- What is said of w. -/
theorem Ri.said (I : Ri c R) (h : PthE c.bg w P) {y : List Int} (hy : findV c w = some y) : P.length = w.length + 1 ∧ (c.kind = 1 → y = [(ea R (P.getD w.length 0)).la]) ∧ (c.kind = 2 → y = (P.drop 1).map fun i => (ea R i).la) := by
  have hl : w.length < P.length := by
    refine Classical.byContradiction fun hh => ?_
    have := (I.find h).1 (by omega)
    rw [this] at hy; cases hy
  have hle := h.1.le
  refine ⟨by omega, fun k1 => ?_, fun k2 => ?_⟩
  · obtain ⟨h1, h2⟩ := h.1.at' w.length hl
    rw [List.take_length] at h2
    have := (I.nt _ (by rw [I.tr.len]; exact h1)).2 y (by rw [h2]; exact hy)
    exact this.1 k1
  · obtain ⟨h1, h2⟩ := I.pc.pre k2 w y hy
    refine List.ext_getElem? fun i => ?_
    by_cases hi : i < w.length
    · have hi' : i + 1 < P.length := by omega
      obtain ⟨p1, p2⟩ := h.1.at' (i + 1) hi'
      obtain ⟨z, hz⟩ := ((I.nt _ (by rw [I.tr.len]; exact p1)).2 (y.take (i + 1)) (by rw [p2]; exact h2 (i + 1))).2 k2 (by rw [p2]; intro e; have := congrArg List.length e; rw [List.length_take, List.length_nil] at this; omega)
      have hzl : z.length = i := by have := congrArg List.length hz; simp at this; omega
      have e1 : (y.take (i + 1))[i]? = y[i]? := by simp
      rw [← e1, hz, List.getElem?_append_right (by omega), hzl]
      simp only [Nat.sub_self, List.getElem?_cons_zero, List.getElem?_map, List.getElem?_drop]
      rw [Nat.add_comm 1 i, List.getElem?_eq_getElem hi']
      simp [List.getD_eq_getElem?_getD, hi']
    · rw [List.getElem?_eq_none (by omega), List.getElem?_eq_none (by simp; omega)]
theorem Ri.some_pre (I : Ri c R) (k2 : c.kind = 2) {u y : List Int} (h : findV c u = some y) (j : Nat) : findV c (u.take j) = some (y.take j) := (I.pc.pre k2 u y h).2 j
/-- Is otherwise kept? -/
theorem Ri.clash (I : Ri c R) (h : PthE c.bg w P) (hf : chkA ⟨1, w, ⟨c.kind, c.k, c.o, 0, [], []⟩⟩ ⟨1, out, []⟩ = 0) : clsV c w out = true ↔ ∃ i, i < P.length ∧ clE (ea R (P.getD i 0)) (nta c.kind w out i) = true := by
  have hle := h.1.le
  constructor
  · intro hc
    unfold clsV at hc
    rw [List.any_eq_true] at hc
    obtain ⟨i, hi, hi2⟩ := hc
    have hi : i ≤ w.length := by have := List.mem_range.1 hi; omega
    unfold clsA at hi2
    cases hff : findV c (w.take i) with
    | none => rw [hff] at hi2; cases hi2
    | some y =>
      rw [hff] at hi2
      rcases chk_out hf with ⟨k1, ho⟩ | ⟨k2, ho⟩
      · simp [k1] at hi2
        obtain ⟨rfl, hne⟩ := hi2
        rw [List.take_length] at hff
        obtain ⟨s1, s2, -⟩ := I.said h hff
        have hkn := (I.find h).2 (by omega)
        rw [hff] at hkn
        refine ⟨w.length, by omega, clE_iff.2 ⟨by simpa using hkn, by unfold nta; rw [if_neg (by omega), if_pos rfl], fun e => hne ?_⟩⟩
        rw [s2 k1, e]
        unfold nta
        rw [if_neg (by omega), if_pos rfl]
        obtain ⟨o, rfl⟩ := List.length_eq_one_iff.1 ho
        rfl
      · simp [k2] at hi2
        -- the first place where they part
        have hyl := (I.pc.pre k2 _ y hff).1
        have htl : (w.take i).length = i := by simp; omega
        obtain ⟨j, hj, hne⟩ : ∃ j, j < i ∧ y[j]? ≠ out[j]? := by
          refine Classical.byContradiction fun hh => hi2 (List.ext_getElem? fun j => ?_)
          by_cases hj : j < i
          · rw [List.getElem?_take_of_lt hj]
            exact Classical.byContradiction fun hh2 => hh ⟨j, hj, hh2⟩
          · rw [List.getElem?_eq_none (by omega), List.getElem?_eq_none (by simp; omega)]
        have hin : w.take i ∈ c.bg := I.pc.ins _ y hff
        have hiP : i < P.length := by
          refine Classical.byContradiction fun hh => h.2 (by omega) ?_
          have := I.tr.pref hin P.length
          rw [List.take_take, Nat.min_eq_left (by omega)] at this
          exact this
        obtain ⟨p1, p2⟩ := h.1.at' (j + 1) (by omega)
        have hfj : findV c (w.take (j + 1)) = some (y.take (j + 1)) := by
          have := (I.pc.pre k2 _ y hff).2 (j + 1)
          rwa [List.take_take, Nat.min_eq_left (by omega)] at this
        obtain ⟨n1, n2⟩ := I.nt _ (by rw [I.tr.len]; exact p1)
        rw [p2, hfj] at n1
        obtain ⟨z, hz⟩ := (n2 (y.take (j + 1)) (by rw [p2]; exact hfj)).2 k2 (by rw [p2]; intro e; have := congrArg List.length e; rw [List.length_take, List.length_nil] at this; omega)
        have hzl : z.length = j := by have := congrArg List.length hz; simp at this; omega
        refine ⟨j + 1, by omega, clE_iff.2 ⟨by simpa using n1, by unfold nta; rw [if_pos k2, if_neg (by omega)], fun e => hne ?_⟩⟩
        have e1 : (y.take (j + 1))[j]? = y[j]? := by simp
        rw [← e1, hz, List.getElem?_append_right (by omega), hzl, e]
        unfold nta
        rw [if_pos k2, if_neg (by omega)]
        simp [List.getD_eq_getElem?_getD, show j < out.length by omega]
  · rintro ⟨i, hi, hc⟩
    obtain ⟨c1, c2, c3⟩ := clE_iff.1 hc
    obtain ⟨p1, p2⟩ := h.1.at' i hi
    obtain ⟨n1, n2⟩ := I.nt _ (by rw [I.tr.len]; exact p1)
    rw [c1, p2] at n1
    obtain ⟨y, hy⟩ := Option.isSome_iff_exists.1 n1.symm
    unfold clsV
    rw [List.any_eq_true]
    refine ⟨i, List.mem_range.2 (by omega), ?_⟩
    unfold clsA
    rw [hy]
    rcases chk_out hf with ⟨k1, ho⟩ | ⟨k2, ho⟩
    · have hiw : i = w.length := by
        unfold nta at c2
        rw [if_neg (by omega)] at c2
        refine Classical.byContradiction fun hh => ?_
        rw [if_neg hh] at c2; cases c2
      have hya := (n2 y (by rw [p2]; exact hy)).1 k1
      simp [k1, hiw]
      intro e
      apply c3
      unfold nta
      rw [if_neg (by omega), if_pos hiw]
      rw [← e, hya]; rfl
    · have hi0 : i ≠ 0 := by
        unfold nta at c2
        rw [if_pos k2] at c2
        intro e
        rw [if_pos e] at c2; cases c2
      obtain ⟨z, hz⟩ := (n2 y (by rw [p2]; exact hy)).2 k2 (by rw [p2]; intro e; have := congrArg List.length e; rw [List.length_take, List.length_nil] at this; omega)
      have hyl := (I.pc.pre k2 _ y hy).1
      simp [k2]
      intro e
      apply c3
      unfold nta
      rw [if_pos k2, if_neg hi0]
      have hzl : z.length = i - 1 := by have := congrArg List.length hz; simp at this hyl; omega
      have e1 : y[i - 1]? = some (ea R (P.getD i 0)).la := by rw [hz, List.getElem?_append_right (by omega), hzl]; simp
      rw [e, List.getElem?_take_of_lt (by omega)] at e1
      show _ = out.getD (i - 1) 0
      rw [show out.getD (i - 1) 0 = (out[i - 1]?).getD 0 from List.getD_eq_getElem?_getD .., e1]; rfl
end
/-- What is found behind a Put that kept. -/
theorem find_new {c : Cs} {w out : List Int} (hl : c.ws.length = c.os.length) (u : List Int) (bg : List (List Int)) : findV { c with ws := c.ws ++ [w], os := c.os ++ [out], bg := bg } u = (findV c u).orElse fun _ => fndL c.kind u [w] [out] := by
  unfold findV
  show (if c.kind = 2 ∧ u.length = 0 then some [] else fndL c.kind u (c.ws ++ [w]) (c.os ++ [out])) = _
  by_cases h : c.kind = 2 ∧ u.length = 0
  · rw [if_pos h, if_pos h]; rfl
  · rw [if_neg h, if_neg h, fndL_app c.kind u c.ws c.os w out hl]
theorem fndL_one {kd : Int} {u w out : List Int} : fndL kd u [w] [out] = if kd = 1 ∧ w = u then some out else if kd = 2 ∧ begV w u = true then some (out.take u.length) else none := rfl
theorem begV_iff {w u : List Int} : begV w u = true ↔ u.length ≤ w.length ∧ u = w.take u.length := by
  unfold begV; simp; intro _; exact ⟨fun h => h.symm, fun h => h.symm⟩
section
variable {c : Cs} {w out : List Int}
/-- A Mealy's beginnings, behind a Put that kept. -/
theorem find_beg (I : Pcs c) (h : (putV c w out).2 = 0) (k2 : c.kind = 2) {j : Nat} (hj : j ≤ w.length) : findV (putV c w out).1 (w.take j) = some (out.take j) := by
  obtain ⟨e, h1, h2, h3, h4⟩ := put_ok h
  have ho : out.length = w.length := by
    rcases chk_out h2 with ⟨k1, _⟩ | ⟨_, ho⟩
    · omega
    · exact ho
  have hca := cls_no h3 hj
  rw [e, find_new I.wl]
  unfold clsA at hca
  have htl : (w.take j).length = j := by simp; omega
  cases hf : findV c (w.take j) with
  | none =>
    rw [fndL_one, if_neg (by omega), if_pos ⟨k2, by rw [begV_iff, htl]; exact ⟨hj, rfl⟩⟩, htl]; rfl
  | some y =>
    rw [hf] at hca
    simp [k2] at hca
    rw [hca]; rfl
theorem put_bg (h : (putV c w out).2 = 0) : (putV c w out).1.bg = frsV c w := by rw [(put_ok h).1]
theorem Pcs.put (I : Pcs c) (h : (putV c w out).2 = 0) : Pcs (putV c w out).1 := by
  obtain ⟨e, h1, h2, h3, h4⟩ := put_ok h
  have hk : (putV c w out).1.kind = c.kind := by rw [e]
  have fm := frs_mem w (w.length + 1) c.bg
  refine ⟨by rw [e]; simp [I.wl], by rw [hk]; exact I.kd, fun u y hu => ?_, fun k2 u y hu => ?_, fun k2 u hu => ?_, ?_, by rw [e]; exact I.k1, by rw [e]; exact I.k2, by rw [e]; exact I.m1⟩
  · rw [put_bg h]
    unfold frsV
    rw [fm]
    rw [e, find_new I.wl] at hu
    cases hf : findV c u with
    | some z => exact .inl (I.ins u z hf)
    | none =>
      rw [hf] at hu
      change fndL c.kind u [w] [out] = some y at hu
      rw [fndL_one] at hu
      split at hu
      · rename_i hh
        exact .inr ⟨w.length, by omega, by rw [List.take_length]; exact hh.2.symm⟩
      · split at hu
        · rename_i hh
          obtain ⟨b1, b2⟩ := begV_iff.1 hh.2
          exact .inr ⟨u.length, by omega, b2⟩
        · cases hu
  · rw [hk] at k2
    have hu' := hu
    rw [e, find_new I.wl] at hu
    cases hf : findV c u with
    | some z =>
      rw [hf] at hu
      obtain rfl : z = y := Option.some.inj hu
      obtain ⟨q1, q2⟩ := I.pre k2 u z hf
      exact ⟨q1, fun j => find_keep I.wl h (q2 j)⟩
    | none =>
      rw [hf] at hu
      change fndL c.kind u [w] [out] = some y at hu
      rw [fndL_one, if_neg (by omega)] at hu
      split at hu
      · rename_i hh
        obtain ⟨b1, b2⟩ := begV_iff.1 hh.2
        have ho : out.length = w.length := by
          rcases chk_out h2 with ⟨k1, _⟩ | ⟨_, ho⟩
          · omega
          · exact ho
        cases hu
        refine ⟨by simp; omega, fun j => ?_⟩
        rw [b2, List.take_take, List.take_take, List.length_take, Nat.min_eq_left b1]
        exact find_beg I h k2 (by omega)
      · cases hu
  · rw [hk] at k2
    rw [put_bg h] at hu
    unfold frsV at hu
    rw [fm] at hu
    rcases hu with hu | ⟨i, hi, rfl⟩
    · obtain ⟨y, hy⟩ := Option.isSome_iff_exists.1 (I.all k2 u hu)
      rw [find_keep I.wl h hy]; rfl
    · rw [find_beg I h k2 (by omega)]; rfl
  · rw [put_bg h, e]; exact h4
theorem frs_in {bg : List (List Int)} : ∀ (n : Nat), (∀ j, j < n → w.take j ∈ bg) → frs w n bg = bg
  | 0, _ => rfl
  | n + 1, h => by rw [frs, frs_in n (fun j hj => h j (by omega))]; exact if_pos (h n (by omega))
theorem frs_out {bg : List (List Int)} {R : List En} (T : Tr R bg) {P : List Nat} (h : PthE bg w P) {i : Nat} (h1 : P.length ≤ i) (h2 : i ≤ w.length) : w.take i ∉ frs w i bg := by
  rw [frs_mem]
  rintro (h3 | ⟨j, hj, e⟩)
  · have := T.pref h3 P.length
    rw [List.take_take, Nat.min_eq_left h1] at this
    exact h.2 (by omega) this
  · have := congrArg List.length e
    simp at this
    omega
theorem frs_next {bg : List (List Int)} {R : List En} (T : Tr R bg) {P : List Nat} (h : PthE bg w P) {i : Nat} (h1 : P.length ≤ i) (h2 : i ≤ w.length) : frs w (i + 1) bg = frs w i bg ++ [w.take i] := by
  rw [frs]; exact if_neg (frs_out T h h1 h2)
theorem Pth.frs {bg : List (List Int)} {P : List Nat} (h : Pth bg w P) : frs w P.length bg = bg := frs_in _ fun j hj => by
  obtain ⟨p1, p2⟩ := h.at' j hj
  rw [← p2]; exact wa_mem p1
theorem frs_len {bg : List (List Int)} {R : List En} (T : Tr R bg) {P : List Nat} (h : PthE bg w P) : ∀ (n : Nat), P.length + n ≤ w.length + 1 → (frs w (P.length + n) bg).length = bg.length + n
  | 0, _ => by rw [Nat.add_zero, h.1.frs]; rfl
  | n + 1, hn => by rw [← Nat.add_assoc, frs_next T h (by omega) (by omega), List.length_append, frs_len T h n (by omega)]; simp; omega
theorem frsV_len {R : List En} (T : Tr R c.bg) {P : List Nat} (h : PthE c.bg w P) : (frsV c w).length + P.length = c.bg.length + w.length + 1 := by
  have hle := h.1.le
  have := frs_len T h (w.length + 1 - P.length) (by omega)
  rw [show P.length + (w.length + 1 - P.length) = w.length + 1 by omega] at this
  unfold frsV
  rw [this]; omega
/-- A row behind a Put: the words are there; the notes of w's beginnings are set, the others as they were. -/
structure Nts (c : Cs) (R : List En) (w out : List Int) (P : List Nat) (j : Nat) (R' : List En) : Prop where
  tr : Tr R' (frsV c w)
  old : ∀ i, i < R'.length → (∀ t, t < j → P.getD t 0 = i → (nta c.kind w out t).1 = false) → (i < R.length → (ea R' i).kn = (ea R i).kn ∧ (ea R' i).la = (ea R i).la) ∧ (R.length ≤ i → (ea R' i).kn = false)
  new : ∀ t, t < j → (nta c.kind w out t).1 = true → (ea R' (P.getD t 0)).kn = (nta c.kind w out t).1 ∧ (ea R' (P.getD t 0)).la = (nta c.kind w out t).2
theorem Nts.end {R R' : List En} {P : List Nat} (I : Ri c R) (h : (putV c w out).2 = 0) (hp : Pth (frsV c w) w P) (hP : P.length = w.length + 1) (N : Nts c R w out P (w.length + 1) R') : Ri (putV c w out).1 R' := by
  obtain ⟨e, h1, h2, h3, h4⟩ := put_ok h
  have hk : (putV c w out).1.kind = c.kind := by rw [e]
  refine ⟨I.pc.put h, by rw [put_bg h]; exact N.tr, fun i hi => ?_⟩
  rw [put_bg h]
  unfold NtOk
  rw [hk]
  by_cases hh : ∃ t, t < w.length + 1 ∧ P.getD t 0 = i ∧ (nta c.kind w out t).1 = true
  · obtain ⟨t, ht, rfl, hn⟩ := hh
    obtain ⟨n1, n2⟩ := N.new t ht hn
    rw [n1, n2, (hp.at' t (by omega)).2, hn]
    rcases chk_out h2 with ⟨k1, ho⟩ | ⟨k2, ho⟩
    · have htw : t = w.length := by
        unfold nta at hn
        rw [if_neg (by omega)] at hn
        refine Classical.byContradiction fun hh => ?_
        rw [if_neg hh] at hn; cases hn
      subst htw
      rw [List.take_length, find_put I.pc.wl h]
      refine ⟨rfl, fun y hy => ⟨fun _ => ?_, fun k2 => by omega⟩⟩
      cases hy
      unfold nta
      rw [if_neg (by omega), if_pos rfl]
      obtain ⟨o, rfl⟩ := List.length_eq_one_iff.1 ho
      rfl
    · have ht0 : t ≠ 0 := by
        unfold nta at hn
        rw [if_pos k2] at hn
        intro e
        rw [if_pos e] at hn; cases hn
      rw [find_beg I.pc h k2 (by omega)]
      refine ⟨rfl, fun y hy => ⟨fun k1 => by omega, fun _ _ => ?_⟩⟩
      cases hy
      unfold nta
      rw [if_pos k2, if_neg ht0]
      obtain ⟨t, rfl⟩ : ∃ s, t = s + 1 := ⟨t - 1, by omega⟩
      exact ⟨out.take t, by rw [take_next (by omega)]; rfl⟩
  · have hno : ∀ t, t < w.length + 1 → P.getD t 0 = i → (nta c.kind w out t).1 = false := fun t ht hti => by
      cases hb : (nta c.kind w out t).1 with
      | false => rfl
      | true => exact absurd ⟨t, ht, hti, hb⟩ hh
    obtain ⟨o1, o2⟩ := N.old i hi hno
    -- where a beginning of w stands
    have hpl : ∀ t, t ≤ w.length → wa (frsV c w) i = w.take t → P.getD t 0 = i := fun t ht et => by
      obtain ⟨p1, p2⟩ := hp.at' t (by omega)
      exact wa_inj N.tr.nd p1 (by rw [← N.tr.len]; exact hi) (by rw [p2, et])
    have fnew : fndL c.kind (wa (frsV c w) i) [w] [out] = none ∨ (c.kind = 2 ∧ wa (frsV c w) i = []) := by
      rw [fndL_one]
      rcases chk_out h2 with ⟨k1, ho⟩ | ⟨k2, ho⟩
      · left
        rw [if_neg, if_neg (by omega)]
        rintro ⟨-, hw⟩
        have h5 := hno w.length (by omega) (hpl w.length (Nat.le_refl _) (by rw [List.take_length]; exact hw.symm))
        unfold nta at h5
        rw [if_neg (by omega), if_pos rfl] at h5; cases h5
      · rw [if_neg (by omega)]
        by_cases hb : begV w (wa (frsV c w) i) = true
        · right
          obtain ⟨b1, b2⟩ := begV_iff.1 hb
          have h5 := hno (wa (frsV c w) i).length (by omega) (hpl _ b1 b2)
          unfold nta at h5
          rw [if_pos k2] at h5
          refine ⟨k2, Classical.byContradiction fun hne => ?_⟩
          rw [if_neg (by intro e0; exact hne (List.length_eq_zero_iff.1 e0))] at h5
          cases h5
        · left
          rw [if_neg (fun x => hb x.2)]
    have feq : findV (putV c w out).1 (wa (frsV c w) i) = findV c (wa (frsV c w) i) := by
      rcases fnew with fn | ⟨k2, hnil⟩
      · rw [e, find_new I.pc.wl, show (frsV c w) = frsV c w from rfl]
        show (findV c (wa (frsV c w) i)).orElse _ = _
        rw [fn]
        cases findV c (wa (frsV c w) i) <;> rfl
      · rw [hnil]
        unfold findV
        rw [hk, if_pos ⟨k2, rfl⟩, if_pos ⟨k2, rfl⟩]
    rw [feq]
    obtain ⟨g, hg⟩ := frs_pre w (w.length + 1) c.bg
    by_cases hiR : i < R.length
    · obtain ⟨e1, e2⟩ := o1 hiR
      have hwa : wa (frsV c w) i = wa c.bg i := by
        unfold frsV wa
        rw [hg, List.getD_eq_getElem?_getD, List.getD_eq_getElem?_getD, List.getElem?_append_left (by rw [← I.tr.len]; exact hiR)]
      rw [hwa, e1, e2]
      exact I.nt i hiR
    · have hkn := o2 (by omega)
      have hnin : wa (frsV c w) i ∉ c.bg := fun hm => by
        obtain ⟨j, hj, ej⟩ := mem_wa hm
        have hwa : wa (frsV c w) j = wa c.bg j := by
          unfold frsV wa
          rw [hg, List.getD_eq_getElem?_getD, List.getD_eq_getElem?_getD, List.getElem?_append_left hj]
        have hjl : j < (frsV c w).length := by unfold frsV; rw [hg]; simp; omega
        have := wa_inj N.tr.nd hjl (by rw [← N.tr.len]; exact hi) (by rw [hwa, ej])
        have hl := I.tr.len
        omega
      have hfn : findV c (wa (frsV c w) i) = none := Option.eq_none_iff_forall_not_mem.2 fun y hy => hnin (I.pc.ins _ y hy)
      rw [hfn, hkn]
      exact ⟨rfl, fun y hy => by cases hy⟩
end
/-- A fresh one. -/
theorem Pcs.new {kind k o most : Int} (h : newE kind k o most = 0) : Pcs (newV kind k o most) := by
  unfold newE at h
  split at h
  · cases h
  rename_i h1
  split at h
  · cases h
  rename_i h2
  split at h
  · cases h
  rename_i h3
  split at h
  · cases h
  rename_i h4
  have f0 : ∀ u y, findV (newV kind k o most) u = some y → kind = 2 ∧ u = [] ∧ y = [] := fun u y hy => by
    unfold findV newV at hy
    dsimp only at hy
    split at hy
    · rename_i hh; cases hy; exact ⟨hh.1, List.length_eq_zero_iff.1 hh.2, rfl⟩
    · cases hy
  refine ⟨rfl, ?_, fun u y hy => ?_, fun k2 u y hy => ?_, fun k2 u hu => ?_, ?_, ?_, ?_, ?_⟩
  · show kind = 1 ∨ kind = 2
    omega
  · rw [(f0 u y hy).2.1]; simp [newV]
  · obtain ⟨-, rfl, rfl⟩ := f0 u y hy
    refine ⟨rfl, fun j => ?_⟩
    rw [List.take_nil]; exact hy
  · obtain rfl : u = [] := by simpa [newV] using hu
    unfold findV
    rw [if_pos ⟨k2, rfl⟩]; rfl
  · show ((1 : Nat) : Int) ≤ most
    omega
  · show 1 ≤ k
    omega
  · show k ≤ 64
    omega
  · show most ≤ 1048576
    omega
theorem Ri.new {kind k o most : Int} (h : newE kind k o most = 0) : Ri (newV kind k o most) [⟨0, 0, 0, 0, decide (kind = 2), 0⟩] := by
  refine ⟨Pcs.new h, Tr.one _, fun i hi => ?_⟩
  obtain rfl : i = 0 := by simpa using hi
  have e : wa (newV kind k o most).bg 0 = [] := rfl
  rw [e]
  unfold NtOk findV
  show decide (kind = 2) = (if kind = 2 ∧ 0 = 0 then some [] else none : Option (List Int)).isSome ∧ ∀ y, (if kind = 2 ∧ 0 = 0 then some [] else none : Option (List Int)) = some y → _
  by_cases c : kind = 2
  · simp [c, newV]
  · simp [c]
theorem Pcs.count {c : Cs} (I : Pcs c) (h m : Int) : Pcs { c with hits := h, miss := m } := ⟨I.wl, I.kd, I.ins, I.pre, I.all, I.room, I.k1, I.k2, I.m1⟩
theorem Ri.count {c : Cs} {R : List En} (I : Ri c R) (h m : Int) : Ri { c with hits := h, miss := m } R := ⟨I.pc.count h m, I.tr, I.nt⟩

end Go.Proofs.Ytemalidanjfmkaa

/-
  The words of which something is kept, in the order; a row's places in the order of their words. Plain words.
-/
namespace Go.Proofs.Ytemalidanjfmkaa

/-- In the order, none twice. -/
def Srt (l : List (List Int)) : Prop := l.Pairwise Ahd
theorem srt_eq : ∀ {l l' : List (List Int)}, Srt l → Srt l' → (∀ u, u ∈ l ↔ u ∈ l') → l = l'
  | [], l', _, _, h => by
    cases l' with
    | nil => rfl
    | cons b t => exact absurd ((h b).2 (by simp)) (by simp)
  | a :: t, [], _, _, h => absurd ((h a).1 (by simp)) (by simp)
  | a :: t, b :: t', h1, h2, h => by
    have p1 := List.pairwise_cons.1 h1
    have p2 := List.pairwise_cons.1 h2
    have e : a = b := by
      rcases List.mem_cons.1 ((h a).1 (by simp)) with e | e
      · exact e
      · rcases List.mem_cons.1 ((h b).2 (by simp)) with e2 | e2
        · exact e2.symm
        · exact absurd ((p1.1 b e2).trans (p2.1 a e)) (Ahd.irrefl a)
    subst e
    have ht : t = t' := srt_eq p1.2 p2.2 fun u => by
      constructor
      · intro hu
        rcases List.mem_cons.1 ((h u).1 (by simp [hu])) with e | e
        · subst e; exact absurd (p1.1 u hu) (Ahd.irrefl u)
        · exact e
      · intro hu
        rcases List.mem_cons.1 ((h u).2 (by simp [hu])) with e | e
        · subst e; exact absurd (p2.1 u hu) (Ahd.irrefl u)
        · exact e
    rw [ht]
/-- What List and Words tell. (P11.5) -/
def Tld (c : Cs) (u : List Int) : Prop := u ∈ c.bg ∧ (findV c u).isSome = true ∧ ¬ (c.kind = 2 ∧ ∃ v, v ∈ c.bg ∧ v ≠ u ∧ begV v u = true)
def Wds (c : Cs) (L : List (List Int)) : Prop := Srt L ∧ ∀ u, u ∈ L ↔ Tld c u
theorem Wds.one {c : Cs} {L L' : List (List Int)} (h : Wds c L) (h' : Wds c L') : L = L' := srt_eq h.1 h'.1 fun u => (h.2 u).trans (h'.2 u).symm
theorem Wds.like {c c' : Cs} {L : List (List Int)} (h : Wds c L) (hk : c'.kind = c.kind) (hw : c'.ws = c.ws) (ho : c'.os = c.os) (hb : c'.bg = c.bg) : Wds c' L := by
  refine ⟨h.1, fun u => (h.2 u).trans ?_⟩
  unfold Tld findV
  rw [hk, hw, ho, hb]
theorem nodup_leN : ∀ (n : Nat) (l : List Nat), l.Nodup → (∀ a ∈ l, a < n) → l.length ≤ n := fun n l hd hl => by
  have := nodup_le n (l.map fun (x : Nat) => (x : Int)) (by
    unfold List.Nodup at hd ⊢
    rw [List.pairwise_map]
    exact hd.imp fun h e => h (by omega)) (fun a ha => by
    obtain ⟨x, hx, rfl⟩ := List.mem_map.1 ha
    have := hl x hx
    omega)
  simpa using this
theorem gn_mem {P : List Nat} {j : Nat} (h : j < P.length) : P.getD j 0 ∈ P := by
  rw [List.getD_eq_getElem?_getD, List.getElem?_eq_getElem h]; exact List.getElem_mem h
theorem mem_gn {P : List Nat} {p : Nat} (h : p ∈ P) : ∃ j, j < P.length ∧ P.getD j 0 = p := by
  obtain ⟨j, hj, e⟩ := List.mem_iff_getElem.1 h
  exact ⟨j, hj, by rw [List.getD_eq_getElem?_getD, List.getElem?_eq_getElem hj]; exact e⟩
section
variable {R : List En} {bg : List (List Int)} {P : List Nat} {i y : Nat}
theorem Tr.msr_kid (T : Tr R bg) {a : Nat} (hk : Kid R a y) : msr R (ea R y).n < msr R y := by
  have h1 := T.nx y hk.1 hk.2.1
  have h2 := T.sy y hk.1 hk.2.1
  have h0 : y ≠ 0 := by have := hk.1; omega
  unfold msr
  rw [if_neg h0]
  by_cases c : (ea R y).n = 0
  · rw [if_pos c]; omega
  · rw [if_neg c]
    have := (h1.kid c).2
    omega
/-- The places of the first i have their children. -/
structure Ino (R : List En) (bg : List (List Int)) (P : List Nat) (i : Nat) : Prop where
  pos : 0 < P.length
  z : P.getD 0 0 = 0
  lt : ∀ p ∈ P, p < R.length
  srt : Srt (P.map (wa bg))
  par : ∀ p ∈ P, p ≠ 0 → ∃ j, j < i ∧ j < P.length ∧ P.getD j 0 = (ea R p).p
  kid : ∀ j, j < i → j < P.length → ∀ z, Kid R (P.getD j 0) z → z ∈ P
/-- The place at i has its children ahead of y. -/
structure Ink (R : List En) (bg : List (List Int)) (P : List Nat) (i y : Nat) : Prop where
  hi : i < P.length
  z : P.getD 0 0 = 0
  lt : ∀ p ∈ P, p < R.length
  srt : Srt (P.map (wa bg))
  par : ∀ p ∈ P, p ≠ 0 → ∃ j, j ≤ i ∧ j < P.length ∧ P.getD j 0 = (ea R p).p
  kid : ∀ j, j < i → j < P.length → ∀ z, Kid R (P.getD j 0) z → z ∈ P
  now : ∀ z, Kid R (P.getD i 0) z → (z ∈ P ↔ (y = 0 ∨ (ea R z).s < (ea R y).s))
  yk : y ≠ 0 → Kid R (P.getD i 0) y
theorem srt_at (h : Srt (P.map (wa bg))) {j k : Nat} (hjk : j < k) (hk : k < P.length) : Ahd (wa bg (P.getD j 0)) (wa bg (P.getD k 0)) := by
  unfold Srt at h
  rw [List.pairwise_map, List.pairwise_iff_getElem] at h
  have := h j k (by omega) hk hjk
  rw [List.getD_eq_getElem?_getD, List.getElem?_eq_getElem (show j < P.length by omega), List.getD_eq_getElem?_getD, List.getElem?_eq_getElem hk]
  exact this
theorem srt_inj (h : Srt (P.map (wa bg))) {j k : Nat} (hj : j < P.length) (hk : k < P.length) (e : P.getD j 0 = P.getD k 0) : j = k := by
  rcases Nat.lt_trichotomy j k with c | c | c
  · have := srt_at h c hk; rw [e] at this; exact absurd this (Ahd.irrefl _)
  · exact c
  · have := srt_at h c hj; rw [e] at this; exact absurd this (Ahd.irrefl _)
theorem srt_nd (h : Srt (P.map (wa bg))) : P.Nodup := by
  unfold Srt at h
  rw [List.pairwise_map] at h
  exact h.imp fun {a b} ha e => by subst e; exact Ahd.irrefl _ ha
theorem Ino.len (h : Ino R bg P i) : P.length ≤ R.length := nodup_leN _ _ (srt_nd h.srt) h.lt
theorem Ink.len (h : Ink R bg P i y) : P.length ≤ R.length := nodup_leN _ _ (srt_nd h.srt) h.lt
theorem Ino.start (T : Tr R bg) : Ino R bg [0] 0 := by
  refine ⟨by simp, rfl, fun p hp => ?_, by unfold Srt; simp, fun p hp h0 => ?_, fun j hj => by omega⟩
  · obtain rfl : p = 0 := by simpa using hp
    exact T.pos
  · exact absurd (by simpa using hp) h0
theorem Ino.begin (T : Tr R bg) (h : Ino R bg P i) (hi : i < P.length) : Ink R bg P i (ea R (P.getD i 0)).c := by
  have ha := h.lt _ (gn_mem hi)
  have hc := T.ch _ ha
  refine ⟨hi, h.z, h.lt, h.srt, fun p hp h0 => ?_, h.kid, fun z hz => ?_, fun h0 => (hc.kid h0).1⟩
  · obtain ⟨j, h1, h2, h3⟩ := h.par p hp h0
    exact ⟨j, by omega, h2, h3⟩
  · have hs := T.sy z hz.1 hz.2.1
    have hno : z ∉ P := fun hm => by
      obtain ⟨j, h1, h2, h3⟩ := h.par z hm (by have := hz.1; omega)
      rw [hz.2.2] at h3
      have := srt_inj h.srt h2 hi h3
      omega
    refine ⟨fun hm => absurd hm hno, fun hq => ?_⟩
    rcases hc with ⟨-, h1⟩ | ⟨h1, h2, h3⟩
    · have := h1 z hz; omega
    · have := h3 z hz (by omega)
      have := h1.1
      omega
theorem Ink.ahd (T : Tr R bg) (h : Ink R bg P i y) (h0 : y ≠ 0) : ∀ q ∈ P, Ahd (wa bg q) (wa bg y) := fun q hq => by
  have hk := h.yk h0
  rw [T.kid_word hk]
  by_cases q0 : q = 0
  · subst q0; rw [T.root]; exact Ahd.nil _ _
  · obtain ⟨j, h1, h2, h3⟩ := h.par q hq q0
    have hkq : Kid R (P.getD j 0) q := ⟨by omega, h.lt q hq, h3.symm⟩
    rw [T.kid_word hkq]
    by_cases c : j = i
    · subst c
      rcases (h.now q hkq).1 hq with e | e
      · exact absurd e h0
      · exact Ahd.last _ e
    · exact (srt_at h.srt (by omega) h.hi).snoc _ _
theorem Ink.next (T : Tr R bg) (h : Ink R bg P i y) (h0 : y ≠ 0) : Ink R bg (P ++ [y]) i (ea R y).n := by
  have hk := h.yk h0
  have ah := h.ahd T h0
  have hnx := T.nx y hk.1 hk.2.1
  rw [hk.2.2] at hnx
  have gi : (P ++ [y]).getD i 0 = P.getD i 0 := gdn_left h.hi
  refine ⟨by rw [List.length_append]; have := h.hi; omega, by rw [gdn_left (by have := h.hi; omega)]; exact h.z, fun p hp => ?_, ?_, fun p hp p0 => ?_, fun j h1 h2 z hz => ?_, fun z hz => ?_, fun n0 => ?_⟩
  · rcases List.mem_append.1 hp with hp | hp
    · exact h.lt p hp
    · obtain rfl : p = y := by simpa using hp
      exact hk.2.1
  · unfold Srt
    rw [List.map_append, List.pairwise_append]
    refine ⟨h.srt, by simp, fun a ha b hb => ?_⟩
    obtain ⟨q, hq, rfl⟩ := List.mem_map.1 ha
    obtain rfl : b = wa bg y := by simpa using hb
    exact ah q hq
  · rcases List.mem_append.1 hp with hp | hp
    · obtain ⟨j, h1, h2, h3⟩ := h.par p hp p0
      exact ⟨j, h1, by rw [List.length_append]; omega, by rw [gdn_left h2]; exact h3⟩
    · obtain rfl : p = y := by simpa using hp
      exact ⟨i, Nat.le_refl _, by rw [List.length_append]; have := h.hi; omega, by rw [gi]; exact hk.2.2.symm⟩
  · have := h.hi
    rw [gdn_left (by omega)] at hz
    exact List.mem_append.2 (.inl (h.kid j h1 (by omega) z hz))
  · rw [gi] at hz
    rw [List.mem_append, h.now z hz, List.mem_singleton]
    have hsz := T.kid_one hz hk
    rcases hnx with ⟨e, h1⟩ | ⟨h1, h2, h3⟩
    · rw [e]
      have := h1 z hz
      refine ⟨fun _ => .inl rfl, fun _ => ?_⟩
      by_cases c : (ea R z).s = (ea R y).s
      · exact .inr (hsz c)
      · exact .inl (.inr (by omega))
    · have hn0 : (ea R y).n ≠ 0 := by have := h1.1; omega
      constructor
      · rintro ((q | q) | q)
        · exact absurd q h0
        · exact .inr (by omega)
        · subst q; exact .inr h2
      · rintro (q | q)
        · exact absurd q hn0
        · by_cases c : (ea R z).s = (ea R y).s
          · exact .inr (hsz c)
          · refine .inl (.inr (Classical.byContradiction fun d => ?_))
            have := h3 z hz (by omega)
            omega
  · rw [gi]; exact (hnx.kid n0).1
theorem Ink.done (h : Ink R bg P i 0) : Ino R bg P (i + 1) := by
  refine ⟨by have := h.hi; omega, h.z, h.lt, h.srt, fun p hp p0 => ?_, fun j h1 h2 z hz => ?_⟩
  · obtain ⟨j, h1, h2, h3⟩ := h.par p hp p0
    exact ⟨j, by omega, h2, h3⟩
  · by_cases c : j = i
    · subst c; exact (h.now z hz).2 (.inl rfl)
    · exact h.kid j (by omega) h2 z hz
/-- All places are there. -/
theorem Ino.all (T : Tr R bg) (h : Ino R bg P P.length) : ∀ (n z : Nat), z ≤ n → z < R.length → z ∈ P
  | n, 0, _, _ => by rw [← h.z]; exact gn_mem h.pos
  | 0, z + 1, hz, _ => by omega
  | n + 1, z + 1, hz, hl => by
    obtain ⟨h1, h2⟩ := T.par (z + 1) (by omega) hl
    have hm := Ino.all T h n (ea R (z + 1)).p (by omega) (by omega)
    obtain ⟨j, hj, e⟩ := mem_gn hm
    exact h.kid j hj hj (z + 1) ⟨by omega, hl, e.symm⟩
end
/-- Is the word at a place told? -/
def keepP (c : Cs) (R : List En) (p : Nat) : Bool := (ea R p).kn && !(decide (c.kind = 2) && !decide ((ea R p).c = 0))
def wdsV (c : Cs) (R : List En) (P : List Nat) : List (List Int) := (P.filter (keepP c R)).map (wa c.bg)
theorem kid_ext {c : Cs} {R : List En} (I : Ri c R) {p : Nat} (hp : p < R.length) : (ea R p).c ≠ 0 ↔ ∃ v, v ∈ c.bg ∧ v ≠ wa c.bg p ∧ begV v (wa c.bg p) = true := by
  have T := I.tr
  have hc := T.ch p hp
  constructor
  · intro h0
    obtain ⟨hk, -⟩ := hc.kid h0
    have hw := T.kid_word hk
    refine ⟨wa c.bg (ea R p).c, wa_mem (by rw [← T.len]; exact hk.2.1), fun e => ?_, begV_iff.2 ?_⟩
    · rw [hw] at e; have := congrArg List.length e; simp at this
    · rw [hw]; simp
  · rintro ⟨v, hv, hne, hb⟩ h0
    obtain ⟨b1, b2⟩ := begV_iff.1 hb
    have hlt : (wa c.bg p).length < v.length := by
      refine Classical.byContradiction fun d => hne ?_
      rw [b2, List.take_of_length_le (by omega)]
    have hm := T.pref hv ((wa c.bg p).length + 1)
    rw [take_next hlt, ← b2] at hm
    obtain ⟨y, hy, e⟩ := mem_wa hm
    obtain ⟨hk, -⟩ := T.kid_of hp (by rw [T.len]; exact hy) e
    rw [h0] at hc
    have hs := T.sy y hk.1 hk.2.1
    rcases hc with ⟨-, h1⟩ | ⟨h1, -⟩
    · have := h1 y hk; omega
    · have := h1.1; omega
theorem wds_of {c : Cs} {R : List En} {P : List Nat} (I : Ri c R) (h : Ino R c.bg P P.length) : Wds c (wdsV c R P) := by
  have T := I.tr
  refine ⟨?_, fun u => ?_⟩
  · unfold wdsV
    exact List.Pairwise.sublist (List.Sublist.map _ List.filter_sublist) h.srt
  · unfold wdsV Tld
    rw [List.mem_map]
    constructor
    · rintro ⟨p, hp, rfl⟩
      obtain ⟨hp, hkp⟩ := List.mem_filter.1 hp
      have hlt := h.lt p hp
      have hn := (I.nt p hlt).1
      unfold keepP at hkp
      rw [Bool.and_eq_true] at hkp
      refine ⟨wa_mem (by rw [← T.len]; exact hlt), by rw [← hn]; exact hkp.1, ?_⟩
      rintro ⟨k2, hex⟩
      have := (kid_ext I hlt).2 hex
      simp [k2, this] at hkp
    · rintro ⟨hm, hf, hn⟩
      obtain ⟨p, hp, rfl⟩ := mem_wa hm
      have hlt : p < R.length := by rw [T.len]; exact hp
      refine ⟨p, List.mem_filter.2 ⟨h.all T p p (Nat.le_refl _) hlt, ?_⟩, rfl⟩
      unfold keepP
      rw [(I.nt p hlt).1, hf]
      by_cases k2 : c.kind = 2
      · have h0 : (ea R p).c = 0 := Classical.byContradiction fun d => hn ⟨k2, (kid_ext I hlt).1 d⟩
        simp [h0]
      · simp [k2]
/-- How the list grows, place by place. -/
theorem wdsV_next {c : Cs} {R : List En} {P : List Nat} {t : Nat} (h : t < P.length) : wdsV c R (P.take (t + 1)) = wdsV c R (P.take t) ++ (if keepP c R (P.getD t 0) = true then [wa c.bg (P.getD t 0)] else []) := by
  have e : P.take (t + 1) = P.take t ++ [P.getD t 0] := by
    rw [List.take_succ_eq_append_getElem h]; simp [List.getD_eq_getElem?_getD, h]
  unfold wdsV
  rw [e, List.filter_append, List.map_append]
  by_cases k : keepP c R (P.getD t 0) = true
  · rw [if_pos k]; simp only [List.filter_cons, List.filter_nil, k]; rfl
  · rw [if_neg k]; simp only [List.filter_cons, List.filter_nil, k]; rfl

end Go.Proofs.Ytemalidanjfmkaa

/-
  A word put into its place in the order; which places are told. Plain words.
-/
namespace Go.Proofs.Ytemalidanjfmkaa

theorem srt_ins {L : List (List Int)} {x : List Int} {k : Nat} (h : Srt L) (hx : x ∉ L) (hd : ∀ y ∈ L.drop k, Ahd x y) (he : k = 0 ∨ ¬ Ahd x (L.getD (k - 1) [])) (hk : k ≤ L.length) : Srt (L.take k ++ x :: L.drop k) := by
  have hs := h
  unfold Srt at h
  have hta : ∀ y ∈ L.take k, Ahd y x := fun y hy => by
    rcases he with rfl | he
    · simp at hy
    · have h0 : k ≠ 0 := fun e => by subst e; simp at hy
      obtain ⟨i, hi, rfl⟩ := List.mem_iff_getElem.1 hy
      rw [List.length_take] at hi
      rw [List.getElem_take]
      have hlast : Ahd (L.getD (k - 1) []) x := by
        rcases Ahd.total (L.getD (k - 1) []) x with c | c | c
        · exact c
        · exfalso
          apply hx
          rw [← c, List.getD_eq_getElem?_getD, List.getElem?_eq_getElem (show k - 1 < L.length by omega)]
          exact List.getElem_mem _
        · exact absurd c he
      by_cases c : i = k - 1
      · subst c
        rw [List.getD_eq_getElem?_getD, List.getElem?_eq_getElem (show k - 1 < L.length by omega)] at hlast
        exact hlast
      · have := List.pairwise_iff_getElem.1 h i (k - 1) (by omega) (by omega) (by omega)
        rw [List.getD_eq_getElem?_getD, List.getElem?_eq_getElem (show k - 1 < L.length by omega)] at hlast
        exact this.trans hlast
  unfold Srt
  rw [List.pairwise_append]
  refine ⟨h.sublist (List.take_sublist _ _), List.pairwise_cons.2 ⟨hd, h.sublist (List.drop_sublist _ _)⟩, fun a ha b hb => ?_⟩
  rcases List.mem_cons.1 hb with rfl | hb
  · exact hta a ha
  · exact (hta a ha).trans (hd b hb)
theorem mem_ins {α : Type} {L : List α} {x u : α} (k : Nat) : u ∈ L.take k ++ x :: L.drop k ↔ u ∈ L ∨ u = x := by
  rw [List.mem_append, List.mem_cons]
  have e : u ∈ L ↔ u ∈ L.take k ∨ u ∈ L.drop k := by
    conv => lhs; rw [← List.take_append_drop k L]
    exact List.mem_append
  rw [e]
  constructor
  · rintro (h | h | h)
    · exact .inl (.inl h)
    · exact .inr h
    · exact .inl (.inr h)
  · rintro ((h | h) | h)
    · exact .inl h
    · exact .inr (.inr h)
    · exact .inr (.inl h)
/-- Is the word at a place told, as far as the first k are looked at? -/
def okN (c : Cs) (i : Nat) : Nat → Bool
  | 0 => (findV c (wa c.bg i)).isSome
  | k + 1 => if c.kind = 2 ∧ k ≠ i ∧ begV (wa c.bg k) (wa c.bg i) = true then false else okN c i k
theorem okN_iff (c : Cs) (i : Nat) : ∀ k, okN c i k = true ↔ (findV c (wa c.bg i)).isSome = true ∧ ¬ (c.kind = 2 ∧ ∃ j, j < k ∧ j ≠ i ∧ begV (wa c.bg j) (wa c.bg i) = true)
  | 0 => by simp [okN]
  | k + 1 => by
    unfold okN
    by_cases h : c.kind = 2 ∧ k ≠ i ∧ begV (wa c.bg k) (wa c.bg i) = true
    · rw [if_pos h]
      refine ⟨(fun q => by cases q), fun q => absurd ⟨h.1, k, by omega, h.2⟩ q.2⟩
    · rw [if_neg h, okN_iff c i k]
      refine ⟨fun q => ⟨q.1, ?_⟩, fun q => ⟨q.1, ?_⟩⟩
      · rintro ⟨k2, j, hj, hne, hb⟩
        by_cases e : j = k
        · subst e; exact h ⟨k2, hne, hb⟩
        · exact q.2 ⟨k2, j, by omega, hne, hb⟩
      · rintro ⟨k2, j, hj, hne, hb⟩
        exact q.2 ⟨k2, j, by omega, hne, hb⟩
theorem okN_tld {c : Cs} (nd : c.bg.Nodup) {i : Nat} (hi : i < c.bg.length) : okN c i c.bg.length = true ↔ Tld c (wa c.bg i) := by
  rw [okN_iff]
  unfold Tld
  constructor
  · rintro ⟨h1, h2⟩
    refine ⟨wa_mem hi, h1, ?_⟩
    rintro ⟨k2, v, hv, hne, hb⟩
    obtain ⟨j, hj, rfl⟩ := mem_wa hv
    exact h2 ⟨k2, j, hj, fun e => hne (by rw [e]), hb⟩
  · rintro ⟨-, h1, h2⟩
    refine ⟨h1, ?_⟩
    rintro ⟨k2, j, hj, hne, hb⟩
    exact h2 ⟨k2, _, wa_mem hj, fun e => hne (wa_inj nd hj hi e), hb⟩
/-- The words of the first so many places that are told. -/
def Tln (c : Cs) (n : Nat) (L : List (List Int)) : Prop := Srt L ∧ ∀ u, u ∈ L ↔ ∃ i, i < n ∧ Tld c (wa c.bg i) ∧ wa c.bg i = u
theorem Tln.nil (c : Cs) : Tln c 0 [] := ⟨by unfold Srt; simp, fun u => ⟨(fun h => by cases h), fun ⟨i, hi, _⟩ => by omega⟩⟩
theorem Tln.skip {c : Cs} {n : Nat} {L : List (List Int)} (h : Tln c n L) (hn : ¬ Tld c (wa c.bg n)) : Tln c (n + 1) L := by
  refine ⟨h.1, fun u => (h.2 u).trans ⟨fun ⟨i, hi, q⟩ => ⟨i, by omega, q⟩, fun ⟨i, hi, q1, q2⟩ => ⟨i, ?_, q1, q2⟩⟩⟩
  by_cases e : i = n
  · subst e; exact absurd q1 hn
  · omega
theorem Tln.fresh {c : Cs} {n : Nat} {L : List (List Int)} (h : Tln c n L) (nd : c.bg.Nodup) (hn : n < c.bg.length) : wa c.bg n ∉ L := fun hm => by
  obtain ⟨i, hi, -, e⟩ := (h.2 _).1 hm
  have := wa_inj nd (by omega) hn e
  omega
theorem Tln.ins {c : Cs} {n k : Nat} {L : List (List Int)} (h : Tln c n L) (nd : c.bg.Nodup) (hn : n < c.bg.length) (ht : Tld c (wa c.bg n)) (hd : ∀ y ∈ L.drop k, Ahd (wa c.bg n) y) (he : k = 0 ∨ ¬ Ahd (wa c.bg n) (L.getD (k - 1) [])) (hk : k ≤ L.length) : Tln c (n + 1) (L.take k ++ wa c.bg n :: L.drop k) := by
  refine ⟨srt_ins h.1 (h.fresh nd hn) hd he hk, fun u => ?_⟩
  rw [mem_ins, h.2]
  constructor
  · rintro (⟨i, hi, q⟩ | rfl)
    · exact ⟨i, by omega, q⟩
    · exact ⟨n, by omega, ht, rfl⟩
  · rintro ⟨i, hi, q1, q2⟩
    by_cases e : i = n
    · subst e; exact .inr q2.symm
    · exact .inl ⟨i, by omega, q1, q2⟩
theorem Tln.all {c : Cs} {L : List (List Int)} (h : Tln c c.bg.length L) : Wds c L := by
  refine ⟨h.1, fun u => (h.2 u).trans ⟨fun ⟨i, hi, q1, q2⟩ => q2 ▸ q1, fun q => ?_⟩⟩
  obtain ⟨i, hi, rfl⟩ := mem_wa q.1
  exact ⟨i, hi, q, rfl⟩

end Go.Proofs.Ytemalidanjfmkaa
