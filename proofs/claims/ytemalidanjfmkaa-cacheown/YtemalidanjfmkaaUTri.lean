/-
  Words in one row that know one another by their places: what such a row is, how a place is found, one word more. Plain words.
-/
import Derived.Test.YtemalidanjfmkaaUCacL
namespace Go.Proofs.Ytemalidanjfmkaa

/-- An entry: its parent, its symbol, its first child, the next one, what is known. -/
structure En where
  p : Nat
  s : Int
  c : Nat
  n : Nat
  kn : Bool
  la : Int
def en0 : En := ⟨0, 0, 0, 0, false, 0⟩
def ea (R : List En) (i : Nat) : En := R.getD i en0
/-- The word at a place. -/
def wa (bg : List (List Int)) (i : Nat) : List Int := bg.getD i []
def Kid (R : List En) (a y : Nat) : Prop := 0 < y ∧ y < R.length ∧ (ea R y).p = a
/-- y is the child of a with the least symbol above t; or none. -/
def Fst (R : List En) (a : Nat) (t : Int) (y : Nat) : Prop :=
  (y = 0 ∧ ∀ z, Kid R a z → (ea R z).s ≤ t) ∨ (Kid R a y ∧ t < (ea R y).s ∧ ∀ z, Kid R a z → t < (ea R z).s → (ea R y).s ≤ (ea R z).s)
/-- A row stands for words. -/
structure Tr (R : List En) (bg : List (List Int)) : Prop where
  len : R.length = bg.length
  pos : 0 < R.length
  root : wa bg 0 = []
  nd : bg.Nodup
  par : ∀ i, 0 < i → i < R.length → (ea R i).p < i ∧ wa bg i = wa bg (ea R i).p ++ [(ea R i).s]
  sy : ∀ i, 0 < i → i < R.length → 0 ≤ (ea R i).s ∧ (ea R i).s < 64
  ch : ∀ a, a < R.length → Fst R a (-1) (ea R a).c
  nx : ∀ x, 0 < x → x < R.length → Fst R (ea R x).p (ea R x).s (ea R x).n
theorem wa_mem {bg : List (List Int)} {i : Nat} (h : i < bg.length) : wa bg i ∈ bg := by
  unfold wa; rw [List.getD_eq_getElem?_getD, List.getElem?_eq_getElem h]; exact List.getElem_mem h
theorem mem_wa {bg : List (List Int)} {u : List Int} (h : u ∈ bg) : ∃ i, i < bg.length ∧ wa bg i = u := by
  obtain ⟨i, hi, e⟩ := List.mem_iff_getElem.1 h
  exact ⟨i, hi, by unfold wa; rw [List.getD_eq_getElem?_getD, List.getElem?_eq_getElem hi]; exact e⟩
theorem wa_inj {bg : List (List Int)} (h : bg.Nodup) {i j : Nat} (hi : i < bg.length) (hj : j < bg.length) (e : wa bg i = wa bg j) : i = j := by
  unfold wa at e
  rw [List.getD_eq_getElem?_getD, List.getElem?_eq_getElem hi, List.getD_eq_getElem?_getD, List.getElem?_eq_getElem hj] at e
  exact (List.getElem_inj h).1 e
theorem wa_left {bg : List (List Int)} {u : List Int} {i : Nat} (h : i < bg.length) : wa (bg ++ [u]) i = wa bg i := by
  unfold wa; rw [List.getD_eq_getElem?_getD, List.getD_eq_getElem?_getD, List.getElem?_append_left h]
theorem wa_new {bg : List (List Int)} {u : List Int} : wa (bg ++ [u]) bg.length = u := by unfold wa; simp
theorem snoc_inj {u v : List Int} {x y : Int} (h : u ++ [x] = v ++ [y]) : u = v ∧ x = y := by
  have := List.append_inj' h rfl
  exact ⟨this.1, by simpa using this.2⟩
section
variable {R : List En} {bg : List (List Int)}
theorem Tr.plt (T : Tr R bg) {i : Nat} (h : 0 < i) (hi : i < R.length) : (ea R i).p < R.length := by have := (T.par i h hi).1; omega
theorem Tr.inj (T : Tr R bg) {i j : Nat} (hi : i < R.length) (hj : j < R.length) (e : wa bg i = wa bg j) : i = j := wa_inj T.nd (T.len ▸ hi) (T.len ▸ hj) e
/-- A child by its word. -/
theorem Tr.kid_of (T : Tr R bg) {a y : Nat} {x : Int} (ha : a < R.length) (hy : y < R.length) (e : wa bg y = wa bg a ++ [x]) : Kid R a y ∧ (ea R y).s = x := by
  have h0 : 0 < y := by
    rcases Nat.eq_zero_or_pos y with h | h
    · subst h; rw [T.root] at e; simp at e
    · exact h
  obtain ⟨h1, h2⟩ := T.par y h0 hy
  rw [h2] at e
  obtain ⟨e1, e2⟩ := snoc_inj e
  exact ⟨⟨h0, hy, T.inj (by omega) ha e1⟩, e2⟩
theorem Tr.kid_word (T : Tr R bg) {a y : Nat} (h : Kid R a y) : wa bg y = wa bg a ++ [(ea R y).s] := by
  obtain ⟨h0, h1, rfl⟩ := h
  exact (T.par y h0 h1).2
theorem Tr.kid_one (T : Tr R bg) {a y z : Nat} (hy : Kid R a y) (hz : Kid R a z) (e : (ea R y).s = (ea R z).s) : y = z :=
  T.inj hy.2.1 hz.2.1 (by rw [T.kid_word hy, T.kid_word hz, e])
theorem Tr.kid_none (T : Tr R bg) {a : Nat} {x : Int} (hn : wa bg a ++ [x] ∉ bg) : ∀ z, Kid R a z → (ea R z).s ≠ x := fun z hz e =>
  hn (by rw [← e, ← T.kid_word hz]; exact wa_mem (T.len ▸ hz.2.1))
/-- Beginnings of words are words. -/
theorem Tr.pre (T : Tr R bg) : ∀ (n i : Nat), i ≤ n → i < R.length → ∀ j, (wa bg i).take j ∈ bg
  | n, 0, _, hi, j => by rw [T.root]; simp; rw [← T.root]; exact wa_mem (T.len ▸ hi)
  | 0, i + 1, h, _, _ => by omega
  | n + 1, i + 1, h, hi, j => by
    obtain ⟨h1, h2⟩ := T.par (i + 1) (by omega) hi
    by_cases c : (wa bg (i + 1)).length ≤ j
    · rw [List.take_of_length_le c]; exact wa_mem (T.len ▸ hi)
    · have := Tr.pre T n (ea R (i + 1)).p (by omega) (by omega) j
      rw [h2] at c ⊢
      rw [List.take_append_of_le_length (by simp at c; omega)]
      exact this
theorem Tr.pref (T : Tr R bg) {u : List Int} (h : u ∈ bg) (j : Nat) : u.take j ∈ bg := by
  obtain ⟨i, hi, rfl⟩ := mem_wa h
  exact T.pre i i (Nat.le_refl _) (by rw [T.len]; exact hi) j
theorem Tr.nil_mem (T : Tr R bg) : [] ∈ bg := by rw [← T.root]; exact wa_mem (T.len ▸ T.pos)
/-- How far a search among children has come. -/
def Goi (R : List En) (a : Nat) (x : Int) (bf bh : Nat) : Prop := (bf = 0 ∧ bh = (ea R a).c) ∨ (Kid R a bf ∧ (ea R bf).s < x ∧ (ea R bf).n = bh)
theorem Fst.lt {a y : Nat} {t : Int} (h : Fst R a t y) (hp : 0 < R.length) : y < R.length := by
  rcases h with ⟨rfl, -⟩ | ⟨h, -⟩
  · exact hp
  · exact h.2.1
theorem Fst.kid {a y : Nat} {t : Int} (h : Fst R a t y) (hy : y ≠ 0) : Kid R a y ∧ t < (ea R y).s := by
  rcases h with ⟨rfl, -⟩ | ⟨h, h2, -⟩
  · exact absurd rfl hy
  · exact ⟨h, h2⟩
theorem Goi.fst (T : Tr R bg) {a bf bh : Nat} {x : Int} (ha : a < R.length) (h : Goi R a x bf bh) : ∃ t, Fst R a t bh ∧ (t = -1 ∨ t < x) := by
  rcases h with ⟨rfl, rfl⟩ | ⟨h1, h2, rfl⟩
  · exact ⟨-1, T.ch a ha, .inl rfl⟩
  · have := T.nx bf h1.1 h1.2.1
    rw [h1.2.2] at this
    exact ⟨_, this, .inr h2⟩
theorem Goi.bh (T : Tr R bg) {a bf bh : Nat} {x : Int} (ha : a < R.length) (h : Goi R a x bf bh) : bh < R.length ∧ (bh ≠ 0 → Kid R a bh) := by
  obtain ⟨t, h1, -⟩ := h.fst T ha
  exact ⟨h1.lt T.pos, fun c => (h1.kid c).1⟩
theorem Goi.next (T : Tr R bg) {a bf bh : Nat} {x : Int} (ha : a < R.length) (h : Goi R a x bf bh) (h0 : bh ≠ 0) (hx : (ea R bh).s < x) : Goi R a x bh (ea R bh).n :=
  .inr ⟨(h.bh T ha).2 h0, hx, rfl⟩
/-- What is left to look at. -/
def msr (R : List En) (y : Nat) : Nat := if y = 0 then 0 else (65 - (ea R y).s).toNat
theorem Tr.msr_lt (T : Tr R bg) {a bf bh : Nat} {x : Int} (ha : a < R.length) (h : Goi R a x bf bh) (h0 : bh ≠ 0) : msr R (ea R bh).n < msr R bh := by
  have hk := (h.bh T ha).2 h0
  have h1 := T.nx bh hk.1 hk.2.1
  have h2 := T.sy bh hk.1 hk.2.1
  unfold msr
  rw [if_neg h0]
  by_cases c : (ea R bh).n = 0
  · rw [if_pos c]; omega
  · rw [if_neg c]
    have := (h1.kid c).2
    omega
/-- Where the search ends. -/
theorem Goi.end (T : Tr R bg) {a bf bh : Nat} {x : Int} (ha : a < R.length) (h : Goi R a x bf bh) (he : bh = 0 ∨ x ≤ (ea R bh).s) : Fst R a (x - 1) bh := by
  obtain ⟨t, h1, ht⟩ := h.fst T ha
  rcases h1 with ⟨rfl, h1⟩ | ⟨h1, h2, h3⟩
  · refine .inl ⟨rfl, fun z hz => ?_⟩
    have h2 := h1 z hz
    have h3 := T.sy z hz.1 hz.2.1
    omega
  · have hx : x ≤ (ea R bh).s := by
      rcases he with he | he
      · have := h1.1; omega
      · exact he
    refine .inr ⟨h1, by omega, fun z hz c => h3 z hz ?_⟩
    have h4 := T.sy z hz.1 hz.2.1
    omega
/-- The child by x. -/
theorem Fst.by (T : Tr R bg) {a y : Nat} {x : Int} (h : Fst R a (x - 1) y) : (y ≠ 0 ∧ (ea R y).s = x ∧ y < R.length ∧ wa bg y = wa bg a ++ [x]) ∨ ((y = 0 ∨ (ea R y).s ≠ x) ∧ ∀ (_ : a < R.length), wa bg a ++ [x] ∉ bg) := by
  have nm : (∀ z, Kid R a z → (ea R z).s ≠ x) → a < R.length → wa bg a ++ [x] ∉ bg := fun hz ha hm => by
    obtain ⟨i, hi, e⟩ := mem_wa hm
    obtain ⟨k1, k2⟩ := T.kid_of ha (by rw [T.len]; exact hi) e
    exact hz i k1 k2
  rcases h with ⟨rfl, h1⟩ | ⟨h1, h2, h3⟩
  · exact .inr ⟨.inl rfl, nm fun z hz e => by have := h1 z hz; omega⟩
  · by_cases c : (ea R y).s = x
    · exact .inl ⟨by have := h1.1; omega, c, h1.2.1, by rw [T.kid_word h1, c]⟩
    · exact .inr ⟨.inr c, nm fun z hz e => by have := h3 z hz (by omega); omega⟩
end
/-- One word more. -/
def addE (R : List En) (a : Nat) (x : Int) (bf bh : Nat) : List En :=
  if bf = 0 then (R ++ [En.mk a x 0 bh false 0]).set a { ea R a with c := R.length } else (R ++ [En.mk a x 0 bh false 0]).set bf { ea R bf with n := R.length }
theorem ea_left {R : List En} {e : En} {i : Nat} (h : i < R.length) : ea (R ++ [e]) i = ea R i := by
  unfold ea; rw [List.getD_eq_getElem?_getD, List.getD_eq_getElem?_getD, List.getElem?_append_left h]
theorem ea_new {R : List En} {e : En} : ea (R ++ [e]) R.length = e := by unfold ea; simp
theorem ea_set {R : List En} {e : En} {i j : Nat} (hi : i < R.length) : ea (R.set i e) j = if j = i then e else ea R j := by
  unfold ea
  rw [List.getD_eq_getElem?_getD, List.getElem?_set, List.getD_eq_getElem?_getD]
  by_cases c : j = i
  · subst c; simp [hi]
  · rw [if_neg (fun e => c e.symm), if_neg c]
theorem addE_len (R : List En) (a : Nat) (x : Int) (bf bh : Nat) : (addE R a x bf bh).length = R.length + 1 := by unfold addE; split <;> simp
section
variable {R : List En} {bg : List (List Int)} {a bf bh : Nat} {x : Int}
theorem addE_new (ha : a < R.length) (hb : bf < R.length) : ea (addE R a x bf bh) R.length = ⟨a, x, 0, bh, false, 0⟩ := by
  unfold addE
  split
  · rw [ea_set (by simp; omega), if_neg (by omega), ea_new]
  · rw [ea_set (by simp; omega), if_neg (by omega), ea_new]
theorem addE_old (ha : a < R.length) (hb : bf < R.length) {i : Nat} (hi : i < R.length) : (ea (addE R a x bf bh) i).p = (ea R i).p ∧ (ea (addE R a x bf bh) i).s = (ea R i).s ∧ (ea (addE R a x bf bh) i).kn = (ea R i).kn ∧ (ea (addE R a x bf bh) i).la = (ea R i).la ∧
    (ea (addE R a x bf bh) i).c = (if bf = 0 ∧ i = a then R.length else (ea R i).c) ∧ (ea (addE R a x bf bh) i).n = (if bf ≠ 0 ∧ i = bf then R.length else (ea R i).n) := by
  unfold addE
  by_cases c : bf = 0
  · simp only [if_pos c]
    rw [ea_set (by simp; omega)]
    by_cases d : i = a
    · subst d; simp [c]
    · rw [if_neg d, ea_left hi]; simp [c, d]
  · simp only [if_neg c]
    rw [ea_set (by simp; omega)]
    by_cases d : i = bf
    · subst d; simp [c]
    · rw [if_neg d, ea_left hi]; simp [c, d]
theorem Kid.add (ha : a < R.length) (hb : bf < R.length) (b z : Nat) : Kid (addE R a x bf bh) b z ↔ Kid R b z ∨ (z = R.length ∧ b = a) := by
  unfold Kid
  rw [addE_len]
  constructor
  · rintro ⟨h1, h2, h3⟩
    by_cases c : z < R.length
    · exact .inl ⟨h1, c, by rw [← h3]; exact (addE_old ha hb c).1.symm⟩
    · obtain rfl : z = R.length := by omega
      rw [addE_new ha hb] at h3
      exact .inr ⟨rfl, h3.symm⟩
  · rintro (⟨h1, h2, h3⟩ | ⟨rfl, rfl⟩)
    · exact ⟨h1, by omega, by rw [(addE_old ha hb h2).1]; exact h3⟩
    · exact ⟨by omega, by omega, by rw [addE_new ha hb]⟩
theorem Tr.add (T : Tr R bg) (ha : a < R.length) (hg : Goi R a x bf bh) (hf : Fst R a (x - 1) bh) (hn : wa bg a ++ [x] ∉ bg) (x0 : 0 ≤ x) (x1 : x < 64) : Tr (addE R a x bf bh) (bg ++ [wa bg a ++ [x]]) := by
  have hb : bf < R.length := by
    rcases hg with ⟨rfl, -⟩ | ⟨h, -⟩
    · exact T.pos
    · exact h.2.1
  have K := Kid.add (R := R) (x := x) (bh := bh) ha hb
  have N := addE_new (R := R) (x := x) (bh := bh) ha hb
  have O := fun {i} (hi : i < R.length) => addE_old (R := R) (x := x) (bh := bh) ha hb hi
  have L := addE_len R a x bf bh
  have hno := T.kid_none hn
  -- between the last lesser one and the next there is nothing
  have btw : bf ≠ 0 → ∀ z, Kid R a z → (ea R z).s < x → (ea R z).s ≤ (ea R bf).s := fun h0 z hz hzx => by
    rcases hg with ⟨rfl, -⟩ | ⟨k1, k2, k3⟩
    · exact absurd rfl h0
    · have h1 := T.nx bf k1.1 k1.2.1
      rw [k1.2.2, k3] at h1
      rcases h1 with ⟨-, h1⟩ | ⟨h1, h2, h3⟩
      · exact h1 z hz
      · refine Classical.byContradiction fun c => ?_
        have h4 := h3 z hz (by omega)
        have h5 := hf.kid (by have := h1.1; omega)
        omega
  have low : bf = 0 → ∀ z, Kid R a z → x < (ea R z).s := fun h0 z hz => by
    rcases hg with ⟨-, e⟩ | ⟨k1, -⟩
    · have h1 := T.ch a ha
      rw [← e] at h1
      have h6 := hno z hz
      have h7 := T.sy z hz.1 hz.2.1
      rcases h1 with ⟨-, h1⟩ | ⟨h1, h2, h3⟩
      · have := h1 z hz; omega
      · have h4 := h3 z hz (by omega)
        have h5 := hf.kid (by have := h1.1; omega)
        omega
    · have := k1.1; omega
  have bfk : bf ≠ 0 → Kid R a bf ∧ (ea R bf).s < x := fun h0 => by
    rcases hg with ⟨rfl, -⟩ | ⟨k1, k2, -⟩
    · exact absurd rfl h0
    · exact ⟨k1, k2⟩
  have Sn : (ea (addE R a x bf bh) R.length).s = x := by rw [N]
  have So : ∀ z, z < R.length → (ea (addE R a x bf bh) z).s = (ea R z).s := fun z hz => (O hz).2.1
  -- the same child where nothing new comes between
  have same : ∀ (b : Nat) (t : Int) (y : Nat), Fst R b t y → (b = a → t < x → y ≠ 0 ∧ (ea R y).s ≤ x) → Fst (addE R a x bf bh) b t y := fun b t y h hx => by
    rcases h with ⟨rfl, h1⟩ | ⟨h1, h2, h3⟩
    · refine .inl ⟨rfl, fun z hz => ?_⟩
      rcases (K b z).1 hz with hz | ⟨rfl, rfl⟩
      · rw [So z hz.2.1]; exact h1 z hz
      · rw [Sn]
        refine Classical.byContradiction fun c => ?_
        exact (hx rfl (by omega)).1 rfl
    · refine .inr ⟨(K b y).2 (.inl h1), by rw [So y h1.2.1]; exact h2, fun z hz hzt => ?_⟩
      rw [So y h1.2.1]
      rcases (K b z).1 hz with hz | ⟨rfl, rfl⟩
      · rw [So z hz.2.1] at hzt ⊢; exact h3 z hz hzt
      · rw [Sn] at hzt ⊢; exact (hx rfl hzt).2
  refine ⟨by rw [L]; simp [T.len], by rw [L]; omega, ?_, ?_, fun i h0 hi => ?_, fun i h0 hi => ?_, fun b hb' => ?_, fun y h0 hy => ?_⟩
  · rw [wa_left (T.len ▸ T.pos)]; exact T.root
  · rw [List.nodup_append]
    refine ⟨T.nd, by simp, fun u hu v hv e => ?_⟩
    rw [List.mem_singleton] at hv
    subst hv; subst e
    exact hn hu
  · rw [L] at hi
    by_cases c : i < R.length
    · obtain ⟨h1, h2⟩ := T.par i h0 c
      rw [(O c).1, (O c).2.1]
      exact ⟨h1, by rw [wa_left (T.len ▸ c), wa_left (by rw [← T.len]; omega)]; exact h2⟩
    · obtain rfl : i = R.length := by omega
      rw [N]
      refine ⟨ha, ?_⟩
      show wa _ R.length = wa _ a ++ [x]
      rw [show wa (bg ++ [wa bg a ++ [x]]) R.length = wa bg a ++ [x] by rw [T.len, wa_new], wa_left (T.len ▸ ha)]
  · rw [L] at hi
    by_cases c : i < R.length
    · rw [So i c]; exact T.sy i h0 c
    · obtain rfl : i = R.length := by omega
      rw [Sn]; exact ⟨x0, x1⟩
  · rw [L] at hb'
    by_cases c : b < R.length
    · rw [(O c).2.2.2.2.1]
      split
      · rename_i h
        obtain ⟨h1, rfl⟩ := h
        refine .inr ⟨(K b R.length).2 (.inr ⟨rfl, rfl⟩), by rw [Sn]; omega, fun z hz _ => ?_⟩
        rw [Sn]
        rcases (K b z).1 hz with hz | ⟨rfl, -⟩
        · rw [So z hz.2.1]; have := low h1 z hz; omega
        · rw [Sn]; exact Int.le_refl _
      · rename_i h
        refine same b (-1) _ (T.ch b c) fun hba _ => ?_
        subst hba
        have h1 : bf ≠ 0 := fun e => h ⟨e, rfl⟩
        obtain ⟨k1, k2⟩ := bfk h1
        have h3 := T.ch b c
        have h5 := T.sy bf k1.1 k1.2.1
        rcases h3 with ⟨-, h3⟩ | ⟨h3, -, h4⟩
        · have := h3 bf k1; omega
        · have := h4 bf k1 (by omega)
          exact ⟨by have := h3.1; omega, by omega⟩
    · obtain rfl : b = R.length := by omega
      rw [N]
      refine .inl ⟨rfl, fun z hz => ?_⟩
      rcases (K R.length z).1 hz with hz | ⟨-, h⟩
      · have := (T.par z hz.1 hz.2.1).1
        have h2 := hz.2.2
        have h3 := hz.2.1
        omega
      · omega
  · rw [L] at hy
    by_cases c : y < R.length
    · rw [(O c).1, (O c).2.1, (O c).2.2.2.2.2]
      split
      · rename_i h
        obtain ⟨h1, rfl⟩ := h
        obtain ⟨k1, k2⟩ := bfk h1
        rw [k1.2.2]
        refine .inr ⟨(K a R.length).2 (.inr ⟨rfl, rfl⟩), by rw [Sn]; exact k2, fun z hz hzt => ?_⟩
        rw [Sn]
        rcases (K a z).1 hz with hz | ⟨rfl, -⟩
        · rw [So z hz.2.1] at hzt ⊢
          refine Classical.byContradiction fun c => ?_
          have := btw h1 z hz (by omega)
          omega
        · rw [Sn]; exact Int.le_refl _
      · rename_i h
        refine same _ _ _ (T.nx y h0 c) fun hpa hlt => ?_
        have ky : Kid R a y := ⟨h0, c, hpa⟩
        by_cases h1 : bf = 0
        · have := low h1 y ky; omega
        · have hyb : y ≠ bf := fun e => h ⟨h1, e⟩
          obtain ⟨k1, k2⟩ := bfk h1
          have h2 := btw h1 y ky hlt
          have h3 : (ea R y).s ≠ (ea R bf).s := fun e => hyb (T.kid_one ky k1 e)
          have h4 := T.nx y h0 c
          rw [hpa] at h4
          rcases h4 with ⟨-, h4⟩ | ⟨h4, -, h5⟩
          · have := h4 bf k1; omega
          · have := h5 bf k1 (by omega)
            exact ⟨by have := h4.1; omega, by omega⟩
    · obtain rfl : y = R.length := by omega
      rw [N]
      show Fst _ a x bh
      rcases hf with ⟨rfl, h1⟩ | ⟨h1, h2, h3⟩
      · refine .inl ⟨rfl, fun z hz => ?_⟩
        rcases (K a z).1 hz with hz | ⟨rfl, -⟩
        · rw [So z hz.2.1]; have := h1 z hz; omega
        · rw [Sn]; exact Int.le_refl _
      · refine .inr ⟨(K a bh).2 (.inl h1), by rw [So bh h1.2.1]; have := hno bh h1; omega, fun z hz hzt => ?_⟩
        rw [So bh h1.2.1]
        rcases (K a z).1 hz with hz | ⟨rfl, -⟩
        · rw [So z hz.2.1] at hzt ⊢; exact h3 z hz (by omega)
        · rw [Sn] at hzt; omega
end
/-- A row of the same shape. -/
theorem Tr.same {R R' : List En} {bg : List (List Int)} (T : Tr R bg) (hl : R'.length = R.length) (h : ∀ i, i < R.length → (ea R' i).p = (ea R i).p ∧ (ea R' i).s = (ea R i).s ∧ (ea R' i).c = (ea R i).c ∧ (ea R' i).n = (ea R i).n) : Tr R' bg := by
  have K : ∀ b z, Kid R' b z ↔ Kid R b z := fun b z => by
    unfold Kid
    rw [hl]
    constructor
    · rintro ⟨h1, h2, h3⟩; exact ⟨h1, h2, by rw [← (h z h2).1]; exact h3⟩
    · rintro ⟨h1, h2, h3⟩; exact ⟨h1, h2, by rw [(h z h2).1]; exact h3⟩
  have F : ∀ b t y, Fst R b t y → Fst R' b t y := fun b t y hf => by
    rcases hf with ⟨rfl, h1⟩ | ⟨h1, h2, h3⟩
    · exact .inl ⟨rfl, fun z hz => by rw [(h z ((K b z).1 hz).2.1).2.1]; exact h1 z ((K b z).1 hz)⟩
    · refine .inr ⟨(K b y).2 h1, by rw [(h y h1.2.1).2.1]; exact h2, fun z hz hzt => ?_⟩
      have hz' := (K b z).1 hz
      rw [(h z hz'.2.1).2.1] at hzt ⊢
      rw [(h y h1.2.1).2.1]
      exact h3 z hz' hzt
  refine ⟨by rw [hl]; exact T.len, by rw [hl]; exact T.pos, T.root, T.nd, fun i h0 hi => ?_, fun i h0 hi => ?_, fun b hb => ?_, fun y h0 hy => ?_⟩
  · rw [hl] at hi; rw [(h i hi).1, (h i hi).2.1]; exact T.par i h0 hi
  · rw [hl] at hi; rw [(h i hi).2.1]; exact T.sy i h0 hi
  · rw [hl] at hb; rw [(h b hb).2.2.1]; exact F _ _ _ (T.ch b hb)
  · rw [hl] at hy; rw [(h y hy).1, (h y hy).2.1, (h y hy).2.2.2]; exact F _ _ _ (T.nx y h0 hy)
theorem Tr.one (b : Bool) : Tr [⟨0, 0, 0, 0, b, 0⟩] [[]] := by
  have K : ∀ a z, ¬ Kid [⟨0, 0, 0, 0, b, 0⟩] a z := fun a z h => by
    have h1 := h.1
    have h2 := h.2.1
    simp at h2
    omega
  refine ⟨rfl, by simp, rfl, by simp, fun i h0 hi => ?_, fun i h0 hi => ?_, fun a ha => ?_, fun x h0 hi => ?_⟩
  · simp at hi; omega
  · simp at hi; omega
  · obtain rfl : a = 0 := by simpa using ha
    exact .inl ⟨rfl, fun z hz => absurd hz (K _ z)⟩
  · simp at hi; omega

end Go.Proofs.Ytemalidanjfmkaa
