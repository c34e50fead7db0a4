/-
  Some texts of this seat, one behind the other.
-/
import Derived.Test.YtlcablkhomnieaaK2
import Derived.Test.YtlcablkhomnieaaK8
/-
  Words of one length after another; of words that come to the same place the first one is gone on with.
-/
namespace Go.Proofs.Ytlcablkhomnieaa

/-- Where a word leads. -/
def eds {α : Type} (f : α → Int → α) (p : α) (w : List Int) : α := w.foldl f p
theorem eds_snoc {α : Type} (f : α → Int → α) (p : α) (w : List Int) (x : Int) : eds f p (w ++ [x]) = f (eds f p w) x := by simp [eds]
theorem gd_memα {α : Type} {l : List α} {i : Nat} {d : α} (h : i < l.length) : l.getD i d ∈ l := by
  rw [List.getD_eq_getElem?_getD, List.getElem?_eq_getElem h]; exact List.getElem_mem h
theorem mem_gdα {α : Type} {l : List α} {a d : α} (h : a ∈ l) : ∃ p, p < l.length ∧ l.getD p d = a := by
  obtain ⟨p, hp, e⟩ := List.getElem_of_mem h
  exact ⟨p, hp, by rw [List.getD_eq_getElem?_getD, List.getElem?_eq_getElem hp]; exact e⟩

/-- What holds at the place (i, x). -/
structure BfI {α : Type} (d : α) (f : α → Int → α) (k : Nat) (p0 : α) (i x : Nat) (S : List α) (V : List (List Int)) : Prop where
  len : S.length = V.length
  ne : 0 < S.length
  s0 : S.getD 0 d = p0
  v0 : V.getD 0 [] = []
  nd : S.Nodup
  il : i ≤ S.length
  xl : x ≤ k
  lead : ∀ p, p < S.length → eds f p0 (V.getD p []) = S.getD p d
  sym : ∀ p, p < S.length → ∀ y ∈ V.getD p [], 0 ≤ y ∧ y < (k : Int)
  par : ∀ p, 0 < p → p < S.length → ∃ j y : Nat, j < p ∧ (j < i ∨ (j = i ∧ y < x)) ∧ y < k ∧ V.getD p [] = V.getD j [] ++ [(y : Int)]
  srt : ∀ p q, p < q → q < S.length → Ahd (V.getD p []) (V.getD q [])
  cov : ∀ j y : Nat, (j < i ∧ y < k ∨ j = i ∧ y < x) → j < S.length → ∃ p, p < S.length ∧ S.getD p d = f (S.getD j d) (y : Int) ∧ (V.getD p [] = V.getD j [] ++ [(y : Int)] ∨ Ahd (V.getD p []) (V.getD j [] ++ [(y : Int)]))

section
variable {α : Type} {d : α} {f : α → Int → α} {k : Nat} {p0 : α} {i x : Nat} {S : List α} {V : List (List Int)}
theorem BfI.start : BfI d f k p0 0 0 [p0] [[]] := by
  refine ⟨rfl, by simp, rfl, rfl, by simp, by simp, by omega, fun p hp => ?_, fun p hp y hy => ?_, fun p h1 h2 => ?_, fun p q h1 h2 => ?_, fun j y h _ => by omega⟩
  · obtain rfl : p = 0 := by simpa using hp
    rfl
  · obtain rfl : p = 0 := by simpa using hp
    simp at hy
  · simp at h2; omega
  · simp at h2; omega
/-- All words so far are ahead of the next one. -/
theorem BfI.ahead (h : BfI d f k p0 i x S V) (hi : i < S.length) (p : Nat) (hp : p < S.length) : Ahd (V.getD p []) (V.getD i [] ++ [(x : Int)]) := by
  by_cases e : p = 0
  · subst e; rw [h.v0]; exact Ahd.nil _ _
  · obtain ⟨j, y, _, hc, _, ev⟩ := h.par p (by omega) hp
    rw [ev]
    rcases hc with hc | ⟨rfl, hc⟩
    · exact (h.srt j i hc hi).snoc _ _
    · exact Ahd.last _ (by omega)
theorem BfI.old (h : BfI d f k p0 i x S V) (hi : i < S.length) (hx : x < k) (ht : f (S.getD i d) (x : Int) ∈ S) : BfI d f k p0 i (x + 1) S V := by
  refine ⟨h.len, h.ne, h.s0, h.v0, h.nd, h.il, by omega, h.lead, h.sym, fun p h1 h2 => ?_, h.srt, fun j y hc hj => ?_⟩
  · obtain ⟨j, y, a, b, c, d⟩ := h.par p h1 h2
    exact ⟨j, y, a, by omega, c, d⟩
  · by_cases e : j = i ∧ y = x
    · obtain ⟨rfl, rfl⟩ := e
      obtain ⟨p, hp, ep⟩ := mem_gdα (d := d) ht
      exact ⟨p, hp, ep, .inr (h.ahead hi p hp)⟩
    · exact h.cov j y (by omega) hj
theorem BfI.row (h : BfI d f k p0 i x S V) (hi : i < S.length) (hx : ¬ x < k) : BfI d f k p0 (i + 1) 0 S V := by
  have hxl := h.xl
  refine ⟨h.len, h.ne, h.s0, h.v0, h.nd, hi, by omega, h.lead, h.sym, fun p h1 h2 => ?_, h.srt, fun j y hc hj => ?_⟩
  · obtain ⟨j, y, a, b, c, d⟩ := h.par p h1 h2
    exact ⟨j, y, a, by omega, c, d⟩
  · exact h.cov j y (by omega) hj
theorem BfI.new (h : BfI d f k p0 i x S V) (hi : i < S.length) (hx : x < k) (ht : ¬ f (S.getD i d) (x : Int) ∈ S) :
    BfI d f k p0 i (x + 1) (S ++ [f (S.getD i d) (x : Int)]) (V ++ [V.getD i [] ++ [(x : Int)]]) := by
  have hlen := h.len
  have hiV : i < V.length := by omega
  have L : (S ++ [f (S.getD i d) (x : Int)]).length = S.length + 1 := by simp
  have gS : ∀ p, p < S.length → (S ++ [f (S.getD i d) (x : Int)]).getD p d = S.getD p d := fun p hp => gd_left d hp
  have gV : ∀ p, p < S.length → (V ++ [V.getD i [] ++ [(x : Int)]]).getD p [] = V.getD p [] := fun p hp => gd_left [] (by omega)
  have eS : (S ++ [f (S.getD i d) (x : Int)]).getD S.length d = f (S.getD i d) (x : Int) := gd_mid _ _ _
  have eV : (V ++ [V.getD i [] ++ [(x : Int)]]).getD S.length [] = V.getD i [] ++ [(x : Int)] := by rw [hlen]; exact gd_mid _ _ _
  refine ⟨by simp [hlen], by simp, by rw [gS 0 h.ne]; exact h.s0, by rw [gV 0 h.ne]; exact h.v0, ?_, by rw [L]; omega, by omega, fun p hp => ?_, fun p hp => ?_, fun p h1 h2 => ?_, fun p q h1 h2 => ?_, fun j y hc hj => ?_⟩
  · rw [List.nodup_append]
    refine ⟨h.nd, by simp, fun a ha b hb e => ?_⟩
    rw [List.mem_singleton] at hb
    rw [hb] at e
    exact ht (e ▸ ha)
  · rw [L] at hp
    by_cases e : p = S.length
    · subst e; rw [eS, eV, eds_snoc, h.lead i hi]
    · rw [gS p (by omega), gV p (by omega)]; exact h.lead p (by omega)
  · rw [L] at hp
    by_cases e : p = S.length
    · subst e
      rw [eV]
      intro y hy
      rw [List.mem_append] at hy
      rcases hy with hy | hy
      · exact h.sym i hi y hy
      · rw [List.mem_singleton] at hy; subst hy; omega
    · rw [gV p (by omega)]; exact h.sym p (by omega)
  · rw [L] at h2
    by_cases e : p = S.length
    · subst e
      exact ⟨i, x, hi, by omega, hx, by rw [eV, gV i hi]⟩
    · obtain ⟨j, y, a, b, c, d⟩ := h.par p h1 (by omega)
      exact ⟨j, y, a, by omega, c, by rw [gV p (by omega), gV j (by omega)]; exact d⟩
  · rw [L] at h2
    by_cases e : q = S.length
    · subst e
      rw [eV, gV p h1]
      exact h.ahead hi p h1
    · rw [gV p (by omega), gV q (by omega)]; exact h.srt p q h1 (by omega)
  · have hj' : j < S.length := by omega
    rw [gS j hj', gV j hj']
    by_cases e : j = i ∧ y = x
    · obtain ⟨rfl, rfl⟩ := e
      exact ⟨S.length, by rw [L]; omega, by rw [eS], .inl (by rw [eV])⟩
    · obtain ⟨p, hp, a, b⟩ := h.cov j y (by omega) hj'
      exact ⟨p, by rw [L]; omega, by rw [gS p hp]; exact a, by rw [gV p hp]; exact b⟩
/-- What is so of the first place and stays so is so of all. -/
theorem BfI.all {G : α → Prop} (h : BfI d f k p0 i x S V) (g0 : G p0) (gf : ∀ p (y : Nat), G p → y < k → G (f p (y : Int))) : ∀ p, p < S.length → G (S.getD p d) := by
  intro p
  induction p using Nat.strongRecOn with
  | ind p ih =>
    intro hp
    by_cases e : p = 0
    · subst e; rw [h.s0]; exact g0
    · obtain ⟨j, y, a, _, c, ev⟩ := h.par p (by omega) hp
      have := gf _ y (ih j a (by omega)) c
      rw [← h.lead j (by omega), ← eds_snoc f, ← ev, h.lead p hp] at this
      exact this
/-- There are no more than there can be. -/
theorem BfI.size {M : Nat} (h : BfI d f k p0 i x S V) (cd : α → Int) (rg : ∀ p, p < S.length → 0 ≤ cd (S.getD p d) ∧ cd (S.getD p d) < (M : Int)) (inj : ∀ p q, p < S.length → q < S.length → cd (S.getD p d) = cd (S.getD q d) → S.getD p d = S.getD q d) : S.length ≤ M := by
  have hm : ((S.map cd)).Nodup := by
    rw [List.nodup_iff_pairwise_ne, List.pairwise_map]
    refine List.Pairwise.imp_of_mem (R := fun a b => a ≠ b) (fun {a b} ha hb ne e => ?_) (List.nodup_iff_pairwise_ne.1 h.nd)
    obtain ⟨p, hp, rfl⟩ := mem_gdα (d := d) ha
    obtain ⟨q, hq, rfl⟩ := mem_gdα (d := d) hb
    exact ne (inj p q hp hq e)
  have := nodup_le M (S.map cd) hm fun c hc => by
    rw [List.mem_map] at hc
    obtain ⟨a, ha, rfl⟩ := hc
    obtain ⟨p, hp, rfl⟩ := mem_gdα (d := d) ha
    exact rg p hp
  simpa using this
theorem BfI.before (h : BfI d f k p0 i x S V) (hi : i < S.length) {p y : Nat} (hp : p < S.length) (ha : Ahd (V.getD p [] ++ [(y : Int)]) (V.getD i [] ++ [(x : Int)])) : p < i ∨ (p = i ∧ y < x) := by
  rcases Nat.lt_trichotomy p i with c | rfl | c
  · exact .inl c
  · rcases Nat.lt_trichotomy y x with e | rfl | e
    · exact .inr ⟨rfl, e⟩
    · exact absurd ha (Ahd.irrefl _)
    · exact absurd (ha.trans (Ahd.last _ (by omega))) (Ahd.irrefl _)
  · exact absurd (ha.trans ((h.srt i p c hp).snoc _ _)) (Ahd.irrefl _)
theorem ahd_self (a : List Int) (x : Int) : Ahd a (a ++ [x]) := .inl (by simp)
theorem ahd_le_snoc {a b : List Int} (h : a = b ∨ Ahd a b) (x : Int) : a ++ [x] = b ++ [x] ∨ Ahd (a ++ [x]) (b ++ [x]) := by
  rcases h with rfl | h
  · exact .inl rfl
  · exact .inr (h.snoc _ _)
theorem ahd_le_trans {a b c : List Int} (h : a = b ∨ Ahd a b) (g : Ahd b c) : Ahd a c := by
  rcases h with rfl | h
  · exact g
  · exact h.trans g
theorem ahd_le_le {a b c : List Int} (h : a = b ∨ Ahd a b) (g : b = c ∨ Ahd b c) : a = c ∨ Ahd a c := by
  rcases g with rfl | g
  · exact h
  · exact .inr (ahd_le_trans h g)
/-- A word ahead of the next one leads to a place that is there, whose word is not behind it. -/
theorem BfI.mid (h : BfI d f k p0 i x S V) (hi : i < S.length) : ∀ (r : List Int), (∀ y ∈ r, 0 ≤ y ∧ y < (k : Int)) → Ahd r.reverse (V.getD i [] ++ [(x : Int)]) → ∃ p, p < S.length ∧ S.getD p d = eds f p0 r.reverse ∧ (V.getD p [] = r.reverse ∨ Ahd (V.getD p []) r.reverse)
  | [], _, _ => ⟨0, h.ne, by rw [h.s0]; rfl, .inl h.v0⟩
  | z :: r, hr, ha => by
    rw [List.reverse_cons] at ha ⊢
    obtain ⟨p, hp, e, hc⟩ := h.mid hi r (fun y hy => hr y (by simp [hy])) ((ahd_self _ _).trans ha)
    have hz := hr z (by simp)
    obtain ⟨y, rfl⟩ := Int.eq_ofNat_of_zero_le hz.1
    have hb := h.before hi hp (ahd_le_trans (ahd_le_snoc hc _) ha)
    obtain ⟨p', hp', e', hc'⟩ := h.cov p y (by omega) hp
    exact ⟨p', hp', by rw [eds_snoc, ← e, e'], ahd_le_le hc' (ahd_le_snoc hc _)⟩
/-- At the end every word leads to a place that is there. -/
theorem BfI.last (h : BfI d f k p0 S.length x S V) : ∀ (r : List Int), (∀ y ∈ r, 0 ≤ y ∧ y < (k : Int)) → ∃ p, p < S.length ∧ S.getD p d = eds f p0 r.reverse ∧ (V.getD p [] = r.reverse ∨ Ahd (V.getD p []) r.reverse)
  | [], _ => ⟨0, h.ne, by rw [h.s0]; rfl, .inl h.v0⟩
  | z :: r, hr => by
    rw [List.reverse_cons]
    obtain ⟨p, hp, e, hc⟩ := h.last r (fun y hy => hr y (by simp [hy]))
    have hz := hr z (by simp)
    obtain ⟨y, rfl⟩ := Int.eq_ofNat_of_zero_le hz.1
    obtain ⟨p', hp', e', hc'⟩ := h.cov p y (by omega) hp
    exact ⟨p', hp', by rw [eds_snoc, ← e, e'], ahd_le_le hc' (ahd_le_snoc hc _)⟩
/-- If what was gone through did not tell, no word ahead of the next one ends so. -/
theorem BfI.first {T : α → Nat → Prop} (h : BfI d f k p0 i x S V) (hi : i < S.length) (hT : ∀ j y, (j < i ∧ y < k ∨ j = i ∧ y < x) → j < S.length → ¬ T (S.getD j d) y) {u : List Int} {y : Nat} (hu : ∀ z ∈ u, 0 ≤ z ∧ z < (k : Int)) (hy : y < k) (ha : Ahd (u ++ [(y : Int)]) (V.getD i [] ++ [(x : Int)])) : ¬ T (eds f p0 u) y := by
  obtain ⟨p, hp, e, hc⟩ := h.mid hi u.reverse (fun z hz => hu z (by simpa using hz)) (by rw [List.reverse_reverse]; exact (ahd_self _ _).trans ha)
  rw [List.reverse_reverse] at e hc
  have hb := h.before hi hp (ahd_le_trans (ahd_le_snoc hc _) ha)
  rw [← e]
  exact hT p y (by omega) hp
theorem BfI.never {T : α → Nat → Prop} (h : BfI d f k p0 S.length x S V) (hT : ∀ j y, j < S.length → y < k → ¬ T (S.getD j d) y) {u : List Int} {y : Nat} (hu : ∀ z ∈ u, 0 ≤ z ∧ z < (k : Int)) (hy : y < k) : ¬ T (eds f p0 u) y := by
  obtain ⟨p, hp, e, hc⟩ := h.last u.reverse (fun z hz => hu z (by simpa using hz))
  rw [List.reverse_reverse] at e
  rw [← e]
  exact hT p y hp hy
end
end Go.Proofs.Ytlcablkhomnieaa

/-
  The first word that tells two states apart: in plain words.
-/
namespace Go.Proofs.Ytlcablkhomnieaa

def Wrd (k : Int) (w : List Int) : Prop := ∀ x ∈ w, 0 ≤ x ∧ x < k
theorem Wrd.nil (k : Int) : Wrd k [] := fun x hx => by cases hx
theorem Wrd.snoc {k x : Int} {w : List Int} (h : Wrd k w) (x0 : 0 ≤ x) (x1 : x < k) : Wrd k (w ++ [x]) := fun y hy => by
  rw [List.mem_append] at hy
  rcases hy with hy | hy
  · exact h y hy
  · rw [List.mem_singleton] at hy; subst hy; exact ⟨x0, x1⟩
theorem Wrd.of_snoc {k x : Int} {w : List Int} (h : Wrd k (w ++ [x])) : Wrd k w ∧ 0 ≤ x ∧ x < k := ⟨fun y hy => h y (by simp [hy]), h x (by simp)⟩
/-- Not the same is said of w. -/
def tls (a b : Mc) (s t : Int) (w : List Int) : Prop := (goV a s w []).2 ≠ (goV b t w []).2
/-- w is the first word of which not the same is said. -/
structure IsF (a b : Mc) (s t : Int) (w : List Int) : Prop where
  wd : Wrd a.k w
  tl : tls a b s t w
  fst : ∀ v, Wrd a.k v → tls a b s t v → ¬ Ahd v w
/-- The first such word, or none. -/
def SepR (a b : Mc) (s t : Int) : Option (List Int) → Prop
  | some w => IsF a b s t w
  | none => ∀ v, Wrd a.k v → ¬ tls a b s t v
theorem IsF.one {a b : Mc} {s t : Int} {w v : List Int} (h : IsF a b s t w) (g : IsF a b s t v) : w = v := by
  rcases Ahd.total w v with c | c | c
  · exact absurd c (g.fst w h.wd h.tl)
  · exact c
  · exact absurd c (h.fst v g.wd g.tl)
theorem SepR.one {a b : Mc} {s t : Int} {o o' : Option (List Int)} (h : SepR a b s t o) (g : SepR a b s t o') : o = o' := by
  cases o with
  | none => cases o' with
    | none => rfl
    | some v => exact absurd g.tl (h v g.wd)
  | some w => cases o' with
    | none => exact absurd h.tl (g w h.wd)
    | some v => rw [IsF.one h g]
theorem least_ex {Q : Nat → Prop} (n : Nat) (h : Q n) : ∃ x, Q x ∧ ∀ y, y < x → ¬ Q y := by
  induction n using Nat.strongRecOn with
  | ind n ih =>
    by_cases c : ∃ y, y < n ∧ Q y
    · obtain ⟨y, hy, q⟩ := c
      exact ih y hy q
    · exact ⟨n, h, fun y hy q => c ⟨y, hy, q⟩⟩
theorem lex_ex (k : Int) : ∀ (n : Nat) (P : List Int → Prop), (∃ w, w.length = n ∧ Wrd k w ∧ P w) → ∃ w, w.length = n ∧ Wrd k w ∧ P w ∧ ∀ v, v.length = n → Wrd k v → P v → ¬ Lex v w
  | 0, P, ⟨w, hl, hw, hp⟩ => ⟨w, hl, hw, hp, fun v hv _ _ => by rw [List.length_eq_zero_iff.1 hl, List.length_eq_zero_iff.1 hv]; exact Lex.irrefl _⟩
  | n + 1, P, ⟨[], hl, _, _⟩ => by simp at hl
  | n + 1, P, ⟨x :: w, hl, hw, hp⟩ => by
    have hx := hw x (by simp)
    obtain ⟨X, rfl⟩ := Int.eq_ofNat_of_zero_le hx.1
    obtain ⟨z, ⟨r, hr, hzr, hpr⟩, hz⟩ := least_ex (Q := fun y : Nat => ∃ r : List Int, r.length = n ∧ Wrd k ((y : Int) :: r) ∧ P ((y : Int) :: r)) X ⟨w, by simpa using hl, hw, hp⟩
    obtain ⟨q, hq, hwq, hpq, hlq⟩ := lex_ex k n (fun r => P ((z : Int) :: r)) ⟨r, hr, fun y hy => hzr y (by simp [hy]), hpr⟩
    have hz2 := hzr (z : Int) (by simp)
    refine ⟨(z : Int) :: q, by simp [hq], fun y hy => ?_, hpq, fun v hv hwv hpv hlv => ?_⟩
    · rcases List.mem_cons.1 hy with rfl | hy
      · exact hz2
      · exact hwq y hy
    · cases v with
      | nil => simp at hv
      | cons y v =>
        have hy := hwv y (by simp)
        obtain ⟨Y, rfl⟩ := Int.eq_ofNat_of_zero_le hy.1
        rcases hlv with c | ⟨c, hlv⟩
        · exact hz Y (by omega) ⟨v, by simpa using hv, hwv, hpv⟩
        · rw [c] at hpv
          exact hlq v (by simpa using hv) (fun u hu => hwv u (by simp [hu])) hpv hlv
theorem sep_ex (a b : Mc) (s t : Int) : ∃ o, SepR a b s t o := by
  by_cases c : ∃ v, Wrd a.k v ∧ tls a b s t v
  · obtain ⟨v, hv, ht⟩ := c
    obtain ⟨n, hn, hl⟩ := least_ex (Q := fun n => ∃ w : List Int, w.length = n ∧ Wrd a.k w ∧ tls a b s t w) v.length ⟨v, rfl, hv, ht⟩
    obtain ⟨w, h1, h2, h3, h4⟩ := lex_ex a.k n (tls a b s t) hn
    refine ⟨some w, h2, h3, fun u hu htu ha => ?_⟩
    rcases ha with ha | ⟨ha, hb⟩
    · exact hl u.length (by omega) ⟨u, rfl, hu, htu⟩
    · exact h4 u (by omega) hu htu hb
  · exact ⟨none, fun v hv ht => c ⟨v, hv, ht⟩⟩

/-- Two states, a symbol further. -/
def stp (a b : Mc) (p : Int × Int) (x : Int) : Int × Int := (nxt a p.1 x, nxt b p.2 x)
theorem eds_stp (a b : Mc) : ∀ (w : List Int) (s t : Int), eds (stp a b) (s, t) w = (ends a s w, ends b t w)
  | [], _, _ => rfl
  | x :: w, s, t => eds_stp a b w (nxt a s x) (nxt b t x)
/-- Not the same is said of the empty word. -/
def tl0 (a b : Mc) (s t : Int) : Prop := a.kind = 1 ∧ a.out.getD s.toNat 0 ≠ b.out.getD t.toNat 0
/-- Not the same is said when y is gone by. -/
def tl1 (a b : Mc) (p : Int × Int) (y : Nat) : Prop := if a.kind = 1 then a.out.getD (nxt a p.1 y).toNat 0 ≠ b.out.getD (nxt b p.2 y).toNat 0 else a.out.getD (p.1 * a.k + y).toNat 0 ≠ b.out.getD (p.2 * b.k + y).toNat 0

section
variable {a b : Mc} {s t : Int}
theorem tls_nil (hkd : b.kind = a.kind) : tls a b s t [] ↔ tl0 a b s t := by
  unfold tls tl0
  by_cases c : a.kind = 1
  · rw [goV_nil1 c, goV_nil1 (by rw [hkd]; exact c)]
    simp [c]
  · rw [goV_nil2 c, goV_nil2 (by rw [hkd]; exact c)]
    simp [c]
theorem tls_snoc (hkd : b.kind = a.kind) (hc : a.kind = 1 ∨ a.kind = 2) (u : List Int) (y : Nat) : tls a b s t (u ++ [(y : Int)]) ↔ (a.kind = 2 ∧ tls a b s t u) ∨ tl1 a b (ends a s u, ends b t u) y := by
  unfold tls tl1
  rcases hc with c | c
  · have c2 : a.kind ≠ 2 := by omega
    rw [(goV_after s u [(y : Int)]).1 c2, (goV_after t u [(y : Int)]).1 (by rw [hkd]; exact c2), goV_one c2, goV_one (by rw [hkd]; exact c2), goV_nil1 c, goV_nil1 (by rw [hkd]; exact c)]
    simp [c]
  · have c1 : a.kind ≠ 1 := by omega
    have d2 : b.kind = 2 := by rw [hkd]; exact c
    rw [(goV_after s u [(y : Int)]).2 c, (goV_after t u [(y : Int)]).2 d2, goV_two c, goV_two d2, goV_nil2 c1, goV_nil2 (by omega), if_neg c1]
    constructor
    · intro h
      by_cases e : (goV a s u []).2 = (goV b t u []).2
      · exact .inr fun e2 => h (by rw [e, e2])
      · exact .inl ⟨c, e⟩
    · rintro (⟨_, h⟩ | h) e
      · exact h (List.append_inj' e (by simp)).1
      · exact h (by simpa using (List.append_inj' e (by simp)).2)
theorem tls_by (hkd : b.kind = a.kind) (hc : a.kind = 1 ∨ a.kind = 2) : ∀ (r : List Int), Wrd a.k r.reverse → tls a b s t r.reverse → tl0 a b s t ∨ ∃ (u : List Int) (y : Nat), Wrd a.k u ∧ (y : Int) < a.k ∧ tl1 a b (ends a s u, ends b t u) y ∧ (u ++ [(y : Int)] = r.reverse ∨ Ahd (u ++ [(y : Int)]) r.reverse)
  | [], _, h => .inl ((tls_nil hkd).1 h)
  | z :: r, hw, h => by
    rw [List.reverse_cons] at hw h ⊢
    obtain ⟨hw1, z0, z1⟩ := hw.of_snoc
    obtain ⟨y, rfl⟩ := Int.eq_ofNat_of_zero_le z0
    rcases (tls_snoc hkd hc _ _).1 h with ⟨_, h1⟩ | h1
    · rcases tls_by hkd hc r hw1 h1 with h2 | ⟨u, x, a1, a2, a3, a4⟩
      · exact .inl h2
      · exact .inr ⟨u, x, a1, a2, a3, .inr (ahd_le_trans a4 (ahd_self _ _))⟩
    · exact .inr ⟨_, y, hw1, z1, h1, .inl rfl⟩
theorem tls_word (hkd : b.kind = a.kind) (hc : a.kind = 1 ∨ a.kind = 2) {v : List Int} (hw : Wrd a.k v) (h : tls a b s t v) : tl0 a b s t ∨ ∃ (u : List Int) (y : Nat), Wrd a.k u ∧ (y : Int) < a.k ∧ tl1 a b (ends a s u, ends b t u) y ∧ (u ++ [(y : Int)] = v ∨ Ahd (u ++ [(y : Int)]) v) := by
  have := tls_by (s := s) (t := t) hkd hc v.reverse (by rw [List.reverse_reverse]; exact hw) (by rw [List.reverse_reverse]; exact h)
  rwa [List.reverse_reverse] at this
theorem sep_now (hkd : b.kind = a.kind) (h : tl0 a b s t) : IsF a b s t [] :=
  ⟨Wrd.nil _, (tls_nil hkd).2 h, fun v _ _ ha => by
    rcases ha with ha | ⟨ha, hb⟩
    · simp at ha
    · rw [List.length_eq_zero_iff.1 ha] at hb; exact Lex.irrefl _ hb⟩
theorem sep_first (hkd : b.kind = a.kind) (hc : a.kind = 1 ∨ a.kind = 2) (h0 : ¬ tl0 a b s t) {u : List Int} {y : Nat} (hu : Wrd a.k u) (hy : (y : Int) < a.k) (ht : tl1 a b (ends a s u, ends b t u) y)
    (hn : ∀ (u' : List Int) (y' : Nat), Wrd a.k u' → (y' : Int) < a.k → Ahd (u' ++ [(y' : Int)]) (u ++ [(y : Int)]) → ¬ tl1 a b (ends a s u', ends b t u') y') : IsF a b s t (u ++ [(y : Int)]) := by
  refine ⟨hu.snoc (by omega) hy, (tls_snoc hkd hc _ _).2 (.inr ht), fun v hv htv ha => ?_⟩
  rcases tls_word hkd hc hv htv with h | ⟨u', y', a1, a2, a3, a4⟩
  · exact h0 h
  · exact hn u' y' a1 a2 (ahd_le_trans a4 ha) a3
theorem sep_never (hkd : b.kind = a.kind) (hc : a.kind = 1 ∨ a.kind = 2) (h0 : ¬ tl0 a b s t) (hn : ∀ (u : List Int) (y : Nat), Wrd a.k u → (y : Int) < a.k → ¬ tl1 a b (ends a s u, ends b t u) y) : SepR a b s t none := fun v hv htv => by
  rcases tls_word hkd hc hv htv with h | ⟨u', y', a1, a2, a3, a4⟩
  · exact h0 h
  · exact hn u' y' a1 a2 a3
/-- What a search through pairs finds. -/
theorem BfI.sep {d : Int × Int} {k i x : Nat} {S : List (Int × Int)} {V : List (List Int)} (h : BfI d (stp a b) k (s, t) i x S V) (hkd : b.kind = a.kind) (hc : a.kind = 1 ∨ a.kind = 2) (hk : a.k = (k : Int)) (hi : i < S.length) (hx : x < k) (h0 : ¬ tl0 a b s t) (hT : ∀ j y, (j < i ∧ y < k ∨ j = i ∧ y < x) → j < S.length → ¬ tl1 a b (S.getD j d) y) (ht : tl1 a b (S.getD i d) x) : IsF a b s t (V.getD i [] ++ [(x : Int)]) := by
  refine sep_first hkd hc h0 (fun y hy => by rw [hk]; exact h.sym i hi y hy) (by omega) ?_ fun u' y' hu hy ha => ?_
  · rw [← eds_stp, h.lead i hi]; exact ht
  · rw [← eds_stp]
    exact h.first (T := tl1 a b) hi hT (fun z hz => by rw [← hk]; exact hu z hz) (by omega) ha
theorem BfI.sepN {d : Int × Int} {k x : Nat} {S : List (Int × Int)} {V : List (List Int)} (h : BfI d (stp a b) k (s, t) S.length x S V) (hkd : b.kind = a.kind) (hc : a.kind = 1 ∨ a.kind = 2) (hk : a.k = (k : Int)) (h0 : ¬ tl0 a b s t) (hT : ∀ j y, j < S.length → y < k → ¬ tl1 a b (S.getD j d) y) : SepR a b s t none := by
  refine sep_never hkd hc h0 fun u y hu hy => ?_
  rw [← eds_stp]
  exact h.never (T := tl1 a b) hT (fun z hz => by rw [← hk]; exact hu z hz) (by omega)
end
end Go.Proofs.Ytlcablkhomnieaa

/-
  How long the first word that tells apart can be, and that it is there just where states are not alike: in plain words.
-/
namespace Go.Proofs.Ytlcablkhomnieaa

theorem alk_says {m : Mc} (k0 : 1 ≤ m.k) : ∀ (n : Nat) {s t : Int}, (∀ w, w.length ≤ n → Wrd m.k w → ¬ tls m m s t w) → alk m n s t = true
  | 0, s, t, h => by
    unfold alk
    by_cases hk : m.kind = 1
    · rw [if_pos hk]
      have h1 : (goV m s [] []).2 = (goV m t [] []).2 := Classical.byContradiction fun e => h [] (by simp) (Wrd.nil _) e
      rw [goV_nil1 hk, goV_nil1 hk] at h1
      have hpp : pp m = 1 := by unfold pp; rw [if_pos hk]
      unfold nowB rowO
      rw [hpp]
      refine decide_eq_true ?_
      have e1 : (s * ((1 : Nat) : Int) + ((0 : Nat) : Int)).toNat = s.toNat := by omega
      have e2 : (t * ((1 : Nat) : Int) + ((0 : Nat) : Int)).toNat = t.toNat := by omega
      show [m.out.getD (s * ((1 : Nat) : Int) + ((0 : Nat) : Int)).toNat 0] = [m.out.getD (t * ((1 : Nat) : Int) + ((0 : Nat) : Int)).toNat 0]
      rw [e1, e2]; exact h1
    · rw [if_neg hk]
  | n + 1, s, t, h => by
    have hs : ∀ w, w.length ≤ n + 1 → Wrd m.k w → (goV m s w []).2 = (goV m t w []).2 := fun w hl hw => Classical.byContradiction fun e => h w hl hw e
    have hstep : ∀ x : Nat, (x : Int) < m.k → ∀ w, w.length ≤ n → Wrd m.k w → ¬ tls m m (nxt m s x) (nxt m t x) w := fun x hx w hl hw ht => by
      have h1 := hs ((x : Int) :: w) (by simpa using hl) (fun y hy => by
        rcases List.mem_cons.1 hy with rfl | hy
        · omega
        · exact hw y hy)
      by_cases hk : m.kind = 2
      · rw [goV_two hk, goV_two hk] at h1
        exact ht (List.cons.inj h1).2
      · rw [goV_one hk, goV_one hk] at h1
        exact ht h1
    refine alk_succ.2 ⟨alk_says k0 n fun w hl hw => h w (by omega) hw, fun hk => ?_, fun x hx => alk_says k0 n (hstep x hx)⟩
    have hpp : pp m = m.k.toNat := by unfold pp; rw [if_neg (by omega)]
    have hkc : ((pp m : Nat) : Int) = m.k := by rw [hpp, Int.toNat_of_nonneg (by omega)]
    unfold nowB rowO
    refine decide_eq_true ?_
    apply List.map_congr_left
    intro x hx
    have hx' := List.mem_range.1 hx
    have h1 := hs [(x : Int)] (by simp) (fun y hy => by rw [List.mem_singleton] at hy; subst hy; omega)
    rw [goV_two hk, goV_two hk] at h1
    rw [hkc]
    exact (List.cons.inj h1).1
theorem now_of_alk {m : Mc} (hc : m.kind = 1 ∨ m.kind = 2) {s t : Int} (h : alk m 1 s t = true) : nowB m s t = true := by
  obtain ⟨h0, h1, _⟩ := alk_succ.1 h
  rcases hc with c | c
  · unfold alk at h0; rwa [if_pos c] at h0
  · exact h1 c
/-- Alike states: no word tells them apart. -/
theorem alk_never {m : Mc} (R : Right m) {s t : Int} (s0 : 0 ≤ s) (s1 : s < m.n) (t0 : 0 ≤ t) (t1 : t < m.n) (h : alk m (rdV m) s t = true) : SepR m m s t none := fun v hv ht => by
  refine ht (pair_go rfl rfl R.kd R.k0 (T := fun x y => (0 ≤ x ∧ x < m.n ∧ 0 ≤ y ∧ y < m.n) ∧ ∀ n, alk m n x y = true) (fun x y hxy => ⟨?_, fun z hz => ?_⟩) v s t ⟨⟨s0, s1, t0, t1⟩, alk_all R s0 s1 t0 t1 h⟩ hv)
  · exact (of_decide_eq_true (now_of_alk R.kd (hxy.2 1))).symm
  · have a1 := nxt_range R hxy.1.1 hxy.1.2.1 hz
    have a2 := nxt_range R hxy.1.2.2.1 hxy.1.2.2.2 hz
    exact ⟨⟨a1.1, a1.2, a2.1, a2.2⟩, fun n => (alk_succ.1 (hxy.2 (n + 1))).2.2 z hz⟩
theorem sep_len {m : Mc} (R : Right m) {s t : Int} (s0 : 0 ≤ s) (s1 : s < m.n) (t0 : 0 ≤ t) (t1 : t < m.n) {w : List Int} (h : IsF m m s t w) : w.length ≤ rdV m := by
  refine Classical.byContradiction fun c => ?_
  have ha : alk m (rdV m) s t = true := alk_says R.k0 _ fun v hl hv ht => h.fst v hv ht (.inl (by omega))
  exact alk_never R s0 s1 t0 t1 ha w h.wd h.tl
/-- States are told apart just where they are not alike. -/
theorem sep_alk {m : Mc} (R : Right m) {s t : Int} (s0 : 0 ≤ s) (s1 : s < m.n) (t0 : 0 ≤ t) (t1 : t < m.n) {o : Option (List Int)} (h : SepR m m s t o) : o.isSome = !(alk m (rdV m) s t) := by
  cases e : alk m (rdV m) s t
  · cases o with
    | none => have := alk_says R.k0 (rdV m) (fun v _ hv => h v hv); rw [e] at this; cases this
    | some w => rfl
  · have := SepR.one h (alk_never R s0 s1 t0 t1 e); rw [this]; rfl
theorem sep_short {m : Mc} (R : Right m) {s t : Int} (s0 : 0 ≤ s) (s1 : s < m.n) (t0 : 0 ≤ t) (t1 : t < m.n) {w : List Int} (h : IsF m m s t w) : (w.length : Int) < m.n := by
  have h1 := sep_len R s0 s1 t0 t1 h
  have h2 := (rdV_spec R.n0).2.2
  have := R.n0
  omega

/-- Two machines as one. -/
def uniM (a b : Mc) : Mc := { kind := a.kind, k := a.k, o := a.o, n := a.n + b.n, nx := a.nx ++ b.nx.map (fun y => y + a.n), out := a.out ++ b.out }
theorem out_pp {m : Mc} (R : Right m) : (m.out.length : Int) = m.n * (pp m : Int) := by
  rcases R.kd with c | c
  · rw [R.outD c]; unfold pp; rw [if_pos c]; simp
  · rw [R.outM c]; unfold pp; rw [if_neg (by omega), Int.toNat_of_nonneg (by have := R.k0; omega)]
theorem gd_rightP {l r : List Int} {P : Nat} : (l ++ r).getD (l.length + P) 0 = r.getD P 0 := by
  simp [List.getD, List.getElem?_append_right]
theorem gd_mapP {l : List Int} {f : Int → Int} {P : Nat} (h : P < l.length) : (l.map f).getD P 0 = f (l.getD P 0) := by
  simp [List.getD, h]
theorem uni_nx1 {a b : Mc} (R : Right a) {s : Int} {x : Nat} (s0 : 0 ≤ s) (s1 : s < a.n) (hx : (x : Int) < a.k) : nxt (uniM a b) s x = nxt a s x := by
  obtain ⟨P, e, hP, _⟩ := way_of R s0 s1 (x := (x : Int)) (by omega) hx
  show (a.nx ++ _).getD (s * a.k + (x : Int)).toNat 0 = a.nx.getD (s * a.k + (x : Int)).toNat 0
  rw [e, Int.toNat_natCast, gd_left 0 hP]
theorem uni_nx2 {a b : Mc} (R : Right a) (Q : Right b) (hk : b.k = a.k) {t : Int} {x : Nat} (t0 : 0 ≤ t) (t1 : t < b.n) (hx : (x : Int) < a.k) : nxt (uniM a b) (a.n + t) x = nxt b t x + a.n := by
  obtain ⟨P, e, hP, _⟩ := way_of Q t0 t1 (x := (x : Int)) (by omega) (by rw [hk]; exact hx)
  have hn := R.nx
  show (a.nx ++ b.nx.map (fun y => y + a.n)).getD ((a.n + t) * a.k + (x : Int)).toNat 0 = b.nx.getD (t * b.k + (x : Int)).toNat 0 + a.n
  have e2 : (a.n + t) * a.k + (x : Int) = ((a.nx.length + P : Nat) : Int) := by
    rw [Int.natCast_add, ← e, hn, Int.add_mul, hk]; omega
  rw [e2, e, Int.toNat_natCast, Int.toNat_natCast, gd_rightP, gd_mapP hP]
theorem row_in {m : Mc} (R : Right m) {s : Int} {y : Nat} (s0 : 0 ≤ s) (s1 : s < m.n) (hy : y < pp m) : ∃ P : Nat, s * (pp m : Int) + (y : Int) = (P : Int) ∧ P < m.out.length := by
  have h0 : 0 ≤ s * (pp m : Int) := Int.mul_nonneg s0 (by omega)
  have h1 : (s + 1) * (pp m : Int) ≤ m.n * (pp m : Int) := Int.mul_le_mul_of_nonneg_right (by omega) (by omega)
  rw [Int.add_mul, Int.one_mul] at h1
  have h2 := out_pp R
  exact ⟨(s * (pp m : Int) + (y : Int)).toNat, by omega, by omega⟩
theorem uni_row1 {a b : Mc} (R : Right a) {s : Int} (s0 : 0 ≤ s) (s1 : s < a.n) : rowO (uniM a b) s (pp (uniM a b)) = rowO a s (pp a) := by
  have hp : pp (uniM a b) = pp a := rfl
  unfold rowO
  rw [hp]
  refine List.map_congr_left fun y hy => ?_
  obtain ⟨P, e, hP⟩ := row_in R s0 s1 (List.mem_range.1 hy)
  show (a.out ++ b.out).getD _ 0 = _
  rw [e, Int.toNat_natCast, gd_left 0 hP]
theorem uni_row2 {a b : Mc} (R : Right a) (Q : Right b) (hkd : b.kind = a.kind) (hk : b.k = a.k) {t : Int} (t0 : 0 ≤ t) (t1 : t < b.n) : rowO (uniM a b) (a.n + t) (pp (uniM a b)) = rowO b t (pp b) := by
  have hp : pp (uniM a b) = pp a := rfl
  have hq : pp b = pp a := by unfold pp; rw [hkd, hk]
  unfold rowO
  rw [hp, hq]
  refine List.map_congr_left fun y hy => ?_
  obtain ⟨P, e, hP⟩ := row_in Q t0 t1 (y := y) (by rw [hq]; exact List.mem_range.1 hy)
  rw [hq] at e
  have hn := out_pp R
  have e2 : (a.n + t) * (pp a : Int) + (y : Int) = ((a.out.length + P : Nat) : Int) := by
    rw [Int.natCast_add, ← e, hn, Int.add_mul]; omega
  show (a.out ++ b.out).getD _ 0 = _
  rw [e2, e, Int.toNat_natCast, Int.toNat_natCast, gd_rightP]
theorem gd_casesP {l r : List Int} {P : Nat} (h : P < (l ++ r).length) : (P < l.length ∧ (l ++ r).getD P 0 = l.getD P 0) ∨ ∃ Q, Q < r.length ∧ (l ++ r).getD P 0 = r.getD Q 0 := by
  by_cases c : P < l.length
  · exact .inl ⟨c, gd_left 0 c⟩
  · rw [List.length_append] at h
    refine .inr ⟨P - l.length, by omega, ?_⟩
    have := gd_rightP (l := l) (r := r) (P := P - l.length)
    rwa [show l.length + (P - l.length) = P by omega] at this
theorem uni_right {a b : Mc} (R : Right a) (Q : Right b) (hkd : b.kind = a.kind) (hk : b.k = a.k) (ho : b.o = a.o) (hn : a.n + b.n ≤ 1024) : Right (uniM a b) := by
  have a0 := R.n0
  have b0 := Q.n0
  refine ⟨R.kd, R.k0, R.k1, by show 1 ≤ a.n + b.n; omega, hn, ?_, fun c => ?_, fun c => ?_, fun j hj => ?_, fun j hj => ?_⟩
  · show ((a.nx ++ b.nx.map _).length : Int) = (a.n + b.n) * a.k
    rw [List.length_append, List.length_map, Int.natCast_add, R.nx, Q.nx, hk, Int.add_mul]
  · show ((a.out ++ b.out).length : Int) = a.n + b.n
    rw [List.length_append, Int.natCast_add, R.outD c, Q.outD (by rw [hkd]; exact c)]
  · show ((a.out ++ b.out).length : Int) = (a.n + b.n) * a.k
    rw [List.length_append, Int.natCast_add, R.outM c, Q.outM (by rw [hkd]; exact c), hk, Int.add_mul]
  · show 0 ≤ (a.nx ++ b.nx.map (fun y => y + a.n)).getD j 0 ∧ (a.nx ++ b.nx.map (fun y => y + a.n)).getD j 0 < a.n + b.n
    rcases gd_casesP (l := a.nx) (r := b.nx.map (fun y => y + a.n)) hj with ⟨h1, h2⟩ | ⟨P, h1, h2⟩
    · rw [h2]; have := R.st j h1; omega
    · rw [List.length_map] at h1
      rw [h2, gd_mapP h1]; have := Q.st P h1; omega
  · show 0 ≤ (a.out ++ b.out).getD j 0 ∧ (a.out ++ b.out).getD j 0 < a.o
    rcases gd_casesP (l := a.out) (r := b.out) hj with ⟨h1, h2⟩ | ⟨P, h1, h2⟩
    · rw [h2]; exact R.so j h1
    · rw [h2]; have := Q.so P h1; omega
theorem uni_go1 {a b : Mc} (R : Right a) {s : Int} (s0 : 0 ≤ s) (s1 : s < a.n) {w : List Int} (hw : Wrd a.k w) : (goV a s w []).2 = (goV (uniM a b) s w []).2 :=
  pair_go (m := a) (o := uniM a b) rfl rfl R.kd R.k0 (T := fun x y => (0 ≤ x ∧ x < a.n) ∧ y = x) (fun x y hxy => by
    obtain ⟨⟨x0, x1⟩, rfl⟩ := hxy
    exact ⟨uni_row1 R x0 x1, fun z hz => ⟨nxt_range R x0 x1 hz, uni_nx1 R x0 x1 hz⟩⟩) w s s ⟨⟨s0, s1⟩, rfl⟩ hw
theorem uni_go2 {a b : Mc} (R : Right a) (Q : Right b) (hkd : b.kind = a.kind) (hk : b.k = a.k) {t : Int} (t0 : 0 ≤ t) (t1 : t < b.n) {w : List Int} (hw : Wrd a.k w) : (goV b t w []).2 = (goV (uniM a b) (a.n + t) w []).2 :=
  pair_go (m := b) (o := uniM a b) hkd.symm hk.symm Q.kd Q.k0 (T := fun x y => (0 ≤ x ∧ x < b.n) ∧ y = a.n + x) (fun x y hxy => by
    obtain ⟨⟨x0, x1⟩, rfl⟩ := hxy
    exact ⟨uni_row2 R Q hkd hk x0 x1, fun z hz => ⟨nxt_range Q x0 x1 hz, by rw [uni_nx2 R Q hk x0 x1 (by rw [← hk]; exact hz)]; omega⟩⟩) w t (a.n + t) ⟨⟨t0, t1⟩, rfl⟩ (by rw [hk]; exact hw)
theorem uni_tls {a b : Mc} (R : Right a) (Q : Right b) (hkd : b.kind = a.kind) (hk : b.k = a.k) {s t : Int} (s0 : 0 ≤ s) (s1 : s < a.n) (t0 : 0 ≤ t) (t1 : t < b.n) {w : List Int} (hw : Wrd a.k w) : tls (uniM a b) (uniM a b) s (a.n + t) w ↔ tls a b s t w := by
  unfold tls
  rw [← uni_go1 R s0 s1 hw, ← uni_go2 R Q hkd hk t0 t1 hw]
/-- The word is shorter than both have states together. -/
theorem sep_two {a b : Mc} (R : Right a) (Q : Right b) (hkd : b.kind = a.kind) (hk : b.k = a.k) (ho : b.o = a.o) (hn : a.n + b.n ≤ 1024) {s t : Int} (s0 : 0 ≤ s) (s1 : s < a.n) (t0 : 0 ≤ t) (t1 : t < b.n) {w : List Int} (h : IsF a b s t w) : (w.length : Int) < a.n + b.n := by
  have U := uni_right R Q hkd hk ho hn
  refine sep_short U (s := s) (t := a.n + t) s0 (by show s < a.n + b.n; omega) (by omega) (by show a.n + t < a.n + b.n; omega) ⟨h.wd, (uni_tls R Q hkd hk s0 s1 t0 t1 h.wd).2 h.tl, fun v hv htv => h.fst v hv ((uni_tls R Q hkd hk s0 s1 t0 t1 hv).1 htv)⟩
/-- No word tells two machines apart just where their least ones are the same. -/
theorem sep_min {a b : Mc} (F : Full a) (G : Full b) (hkd : b.kind = a.kind) (hk : b.k = a.k) (ho : b.o = a.o) {o : Option (List Int)} (h : SepR a b 0 0 o) : o.isSome = true ↔ minM b ≠ minM a := by
  cases o with
  | none =>
    have : minM b = minM a := min_unique F G hkd hk ho fun w hw => Classical.byContradiction fun e => h w hw e
    simp [this]
  | some w =>
    simp only [Option.isSome_some, true_iff]
    intro e
    exact h.tl (same_of_min F G hk e w h.wd)
theorem tls_symm {a b : Mc} {s t : Int} {w : List Int} (h : tls a b s t w) : tls b a t s w := fun e => h e.symm
theorem SepR.symm {a b : Mc} {s t : Int} (hk : b.k = a.k) {o : Option (List Int)} (h : SepR a b s t o) : SepR b a t s o := by
  cases o with
  | none => exact fun v hv ht => h v (by rw [← hk]; exact hv) (tls_symm ht)
  | some w => exact ⟨by rw [hk]; exact h.wd, tls_symm h.tl, fun v hv ht => h.fst v (by rw [← hk]; exact hv) (tls_symm ht)⟩
end Go.Proofs.Ytlcablkhomnieaa

/-
  States held together by pairs; a search that leaves out pairs whose states are held together; chains that lead to one state of all that are held together: in plain words.
-/
namespace Go.Proofs.Ytlcablkhomnieaa

/-- Held together by the pairs of P. -/
def Hld (P : Int → Int → Prop) (s t : Int) : Prop := ∀ E : Int → Int → Prop, (∀ a, E a a) → (∀ a b, E a b → E b a) → (∀ a b c, E a b → E b c → E a c) → (∀ a b, P a b → E a b) → E s t
theorem Hld.one {P : Int → Int → Prop} {s t : Int} (h : P s t) : Hld P s t := fun _ _ _ _ e => e s t h
theorem Hld.refl (P : Int → Int → Prop) (s : Int) : Hld P s s := fun _ e _ _ _ => e s
theorem Hld.symm {P : Int → Int → Prop} {s t : Int} (h : Hld P s t) : Hld P t s := fun E a b c d => b s t (h E a b c d)
theorem Hld.trans {P : Int → Int → Prop} {s t u : Int} (h : Hld P s t) (g : Hld P t u) : Hld P s u := fun E a b c d => c s t u (h E a b c d) (g E a b c d)
theorem Hld.mono {P Q : Int → Int → Prop} {s t : Int} (H : Hld P s t) (h : ∀ a b, P a b → Q a b) : Hld Q s t := fun E a b c d => H E a b c fun x y e => d x y (h x y e)
/-- A word that tells two apart that are held together tells one of the pairs apart. -/
theorem Hld.tells {P : Int → Int → Prop} {m : Mc} {r : List Int} {s t : Int} (H : Hld P s t) (h : tls m m s t r) : ∃ a b, P a b ∧ tls m m a b r := by
  apply Classical.byContradiction
  intro c
  exact h (H (fun a b => (goV m a r []).2 = (goV m b r []).2) (fun _ => rfl) (fun _ _ e => e.symm) (fun _ _ _ e f => e.trans f) fun a b e => Classical.byContradiction fun x => c ⟨a, b, e, x⟩)

theorem Ahd.app : ∀ (r : List Int) {a b : List Int}, Ahd a b → Ahd (a ++ r) (b ++ r)
  | [], a, b, h => by simpa using h
  | x :: r, a, b, h => by
    have := Ahd.app r (h.snoc x x)
    simpa using this
theorem ahd_pre (a : List Int) {r : List Int} (h : r ≠ []) : Ahd a (a ++ r) := .inl (by rw [List.length_append]; have := List.length_pos_iff.2 h; omega)
theorem goV_says2 {m : Mc} (hk : m.kind = 2) : ∀ (w : List Int) (s : Int), (goV m s w []).2.length = w.length
  | [], s => by rw [goV_nil2 (by omega)]
  | x :: w, s => by rw [goV_two hk, List.length_cons, List.length_cons, goV_says2 hk w]
theorem tls_to {m : Mc} {s t : Int} {u r : List Int} (h : ¬ tls m m s t u) (g : tls m m s t (u ++ r)) : tls m m (ends m s u) (ends m t u) r := by
  have e : (goV m s u []).2 = (goV m t u []).2 := Classical.byContradiction h
  intro c
  apply g
  by_cases hk : m.kind = 2
  · rw [(goV_after s u r).2 hk, (goV_after t u r).2 hk, e, c]
  · rw [(goV_after s u r).1 hk, (goV_after t u r).1 hk, c]
theorem tls_fro {m : Mc} {s t : Int} {u r : List Int} (h : tls m m (ends m s u) (ends m t u) r) : tls m m s t (u ++ r) := by
  intro c
  apply h
  by_cases hk : m.kind = 2
  · rw [(goV_after s u r).2 hk, (goV_after t u r).2 hk] at c
    exact (List.append_inj' c (by rw [goV_says2 hk, goV_says2 hk])).2
  · rw [(goV_after s u r).1 hk, (goV_after t u r).1 hk] at c
    exact c

/-- The pairs of a list. -/
def inS (S : List (Int × Int)) (a b : Int) : Prop := (a, b) ∈ S
/-- What holds at the place (i, x) of a search that leaves out pairs that are held together; U: from which pair, by which symbol each was come to. -/
structure TiI (m : Mc) (k : Nat) (p0 : Int × Int) (i x : Nat) (S : List (Int × Int)) (V : List (List Int)) (U : List ((Int × Int) × Int)) : Prop where
  len : S.length = V.length
  lenU : S.length = U.length
  ne : 0 < S.length
  s0 : S.getD 0 (0, 0) = p0
  v0 : V.getD 0 [] = []
  nd : S.Nodup
  il : i ≤ S.length
  xl : x ≤ k
  lead : ∀ p, p < S.length → eds (stp m m) p0 (V.getD p []) = S.getD p (0, 0)
  sym : ∀ p, p < S.length → ∀ y ∈ V.getD p [], 0 ≤ y ∧ y < (k : Int)
  par : ∀ p, 0 < p → p < S.length → ∃ j y : Nat, j < p ∧ (j < i ∨ (j = i ∧ y < x)) ∧ y < k ∧ V.getD p [] = V.getD j [] ++ [(y : Int)] ∧ U.getD p ((0, 0), 0) = (S.getD j (0, 0), (y : Int))
  srt : ∀ p q, p < q → q < S.length → Ahd (V.getD p []) (V.getD q [])
  cov : ∀ j y : Nat, (j < i ∧ y < k ∨ j = i ∧ y < x) → j < S.length → Hld (fun a b => ∃ p, p < S.length ∧ S.getD p (0, 0) = (a, b) ∧ (V.getD p [] = V.getD j [] ++ [(y : Int)] ∨ Ahd (V.getD p []) (V.getD j [] ++ [(y : Int)]))) (stp m m (S.getD j (0, 0)) (y : Int)).1 (stp m m (S.getD j (0, 0)) (y : Int)).2

section
variable {m : Mc} {k : Nat} {p0 : Int × Int} {i x : Nat} {S : List (Int × Int)} {V : List (List Int)} {U : List ((Int × Int) × Int)}
theorem TiI.start : TiI m k p0 0 0 [p0] [[]] [((0, 0), 0)] := by
  refine ⟨rfl, rfl, by simp, rfl, rfl, by simp, by simp, by omega, fun p hp => ?_, fun p hp y hy => ?_, fun p h1 h2 => ?_, fun p q h1 h2 => ?_, fun j y h _ => by omega⟩
  · obtain rfl : p = 0 := by simpa using hp
    rfl
  · obtain rfl : p = 0 := by simpa using hp
    simp at hy
  · simp at h2; omega
  · simp at h2; omega
theorem TiI.ahead (h : TiI m k p0 i x S V U) (hi : i < S.length) (p : Nat) (hp : p < S.length) : Ahd (V.getD p []) (V.getD i [] ++ [(x : Int)]) := by
  by_cases e : p = 0
  · subst e; rw [h.v0]; exact Ahd.nil _ _
  · obtain ⟨j, y, _, hc, _, ev, _⟩ := h.par p (by omega) hp
    rw [ev]
    rcases hc with hc | ⟨rfl, hc⟩
    · exact (h.srt j i hc hi).snoc _ _
    · exact Ahd.last _ (by omega)
theorem TiI.old (h : TiI m k p0 i x S V U) (hi : i < S.length) (hx : x < k) (ht : Hld (inS S) (stp m m (S.getD i (0, 0)) (x : Int)).1 (stp m m (S.getD i (0, 0)) (x : Int)).2) : TiI m k p0 i (x + 1) S V U := by
  refine ⟨h.len, h.lenU, h.ne, h.s0, h.v0, h.nd, h.il, by omega, h.lead, h.sym, fun p h1 h2 => ?_, h.srt, fun j y hc hj => ?_⟩
  · obtain ⟨j, y, a, b, c, d⟩ := h.par p h1 h2
    exact ⟨j, y, a, by omega, c, d⟩
  · by_cases e : j = i ∧ y = x
    · obtain ⟨rfl, rfl⟩ := e
      refine ht.mono fun a b hab => ?_
      obtain ⟨p, hp, ep⟩ := mem_gdα (d := ((0 : Int), (0 : Int))) hab
      exact ⟨p, hp, ep, .inr (h.ahead hi p hp)⟩
    · exact h.cov j y (by omega) hj
theorem TiI.row (h : TiI m k p0 i x S V U) (hi : i < S.length) (hx : ¬ x < k) : TiI m k p0 (i + 1) 0 S V U := by
  have hxl := h.xl
  refine ⟨h.len, h.lenU, h.ne, h.s0, h.v0, h.nd, hi, by omega, h.lead, h.sym, fun p h1 h2 => ?_, h.srt, fun j y hc hj => ?_⟩
  · obtain ⟨j, y, a, b, c, d⟩ := h.par p h1 h2
    exact ⟨j, y, a, by omega, c, d⟩
  · exact h.cov j y (by omega) hj
theorem TiI.new (h : TiI m k p0 i x S V U) (hi : i < S.length) (hx : x < k) (ht : ¬ stp m m (S.getD i (0, 0)) (x : Int) ∈ S) :
    TiI m k p0 i (x + 1) (S ++ [stp m m (S.getD i (0, 0)) (x : Int)]) (V ++ [V.getD i [] ++ [(x : Int)]]) (U ++ [(S.getD i (0, 0), (x : Int))]) := by
  obtain ⟨N, hN⟩ : ∃ N, N = stp m m (S.getD i (0, 0)) (x : Int) := ⟨_, rfl⟩
  rw [← hN] at ht ⊢
  have hlen := h.len
  have hlenU := h.lenU
  have hiV : i < V.length := by omega
  have L : (S ++ [N]).length = S.length + 1 := by simp
  have gS : ∀ p, p < S.length → (S ++ [N]).getD p (0, 0) = S.getD p (0, 0) := fun p hp => gd_left (0, 0) hp
  have gV : ∀ p, p < S.length → (V ++ [V.getD i [] ++ [(x : Int)]]).getD p [] = V.getD p [] := fun p hp => gd_left [] (by omega)
  have gU : ∀ p, p < S.length → (U ++ [(S.getD i (0, 0), (x : Int))]).getD p ((0, 0), 0) = U.getD p ((0, 0), 0) := fun p hp => gd_left _ (by omega)
  have eS : (S ++ [N]).getD S.length (0, 0) = N := gd_mid _ _ _
  have eV : (V ++ [V.getD i [] ++ [(x : Int)]]).getD S.length [] = V.getD i [] ++ [(x : Int)] := by rw [hlen]; exact gd_mid _ _ _
  have eU : (U ++ [(S.getD i (0, 0), (x : Int))]).getD S.length ((0, 0), 0) = (S.getD i (0, 0), (x : Int)) := by rw [hlenU]; exact gd_mid _ _ _
  refine ⟨by simp [hlen], by simp [hlenU], by simp, by rw [gS 0 h.ne]; exact h.s0, by rw [gV 0 h.ne]; exact h.v0, ?_, by rw [L]; omega, by omega, fun p hp => ?_, fun p hp => ?_, fun p h1 h2 => ?_, fun p q h1 h2 => ?_, fun j y hc hj => ?_⟩
  · rw [List.nodup_append]
    refine ⟨h.nd, by simp, fun a ha b hb e => ?_⟩
    rw [List.mem_singleton] at hb
    rw [hb] at e
    exact ht (e ▸ ha)
  · rw [L] at hp
    by_cases e : p = S.length
    · subst e; rw [eS, eV, eds_snoc, h.lead i hi, hN]
    · rw [gS p (by omega), gV p (by omega)]; exact h.lead p (by omega)
  · rw [L] at hp
    by_cases e : p = S.length
    · subst e
      rw [eV]
      intro y hy
      rw [List.mem_append] at hy
      rcases hy with hy | hy
      · exact h.sym i hi y hy
      · rw [List.mem_singleton] at hy; subst hy; omega
    · rw [gV p (by omega)]; exact h.sym p (by omega)
  · rw [L] at h2
    by_cases e : p = S.length
    · subst e
      exact ⟨i, x, hi, by omega, hx, by rw [eV, gV i hi], by rw [eU, gS i hi]⟩
    · obtain ⟨j, y, a, b, c, d, f⟩ := h.par p h1 (by omega)
      exact ⟨j, y, a, by omega, c, by rw [gV p (by omega), gV j (by omega)]; exact d, by rw [gU p (by omega), gS j (by omega)]; exact f⟩
  · rw [L] at h2
    by_cases e : q = S.length
    · subst e
      rw [eV, gV p h1]
      exact h.ahead hi p h1
    · rw [gV p (by omega), gV q (by omega)]; exact h.srt p q h1 (by omega)
  · have hj' : j < S.length := by omega
    rw [gS j hj', gV j hj']
    by_cases e : j = i ∧ y = x
    · obtain ⟨rfl, rfl⟩ := e
      rw [← hN]
      exact Hld.one ⟨S.length, by rw [L]; omega, by rw [eS], .inl (by rw [eV])⟩
    · refine (h.cov j y (by omega) hj').mono fun a b ⟨p, hp, e1, e2⟩ => ?_
      exact ⟨p, by rw [L]; omega, by rw [gS p hp]; exact e1, by rw [gV p hp]; exact e2⟩
/-- What is so of the first place and stays so is so of all. -/
theorem TiI.all {G : Int × Int → Prop} (h : TiI m k p0 i x S V U) (g0 : G p0) (gf : ∀ p (y : Nat), G p → y < k → G (stp m m p (y : Int))) : ∀ p, p < S.length → G (S.getD p (0, 0)) := by
  intro p
  induction p using Nat.strongRecOn with
  | ind p ih =>
    intro hp
    by_cases e : p = 0
    · subst e; rw [h.s0]; exact g0
    · obtain ⟨j, y, a, _, c, ev, _⟩ := h.par p (by omega) hp
      have := gf _ y (ih j a (by omega)) c
      rw [← h.lead j (by omega), ← eds_snoc (stp m m), ← ev, h.lead p hp] at this
      exact this
theorem TiI.size {M : Nat} (h : TiI m k p0 i x S V U) (cd : Int × Int → Int) (rg : ∀ p, p < S.length → 0 ≤ cd (S.getD p (0, 0)) ∧ cd (S.getD p (0, 0)) < (M : Int)) (inj : ∀ p q, p < S.length → q < S.length → cd (S.getD p (0, 0)) = cd (S.getD q (0, 0)) → S.getD p (0, 0) = S.getD q (0, 0)) : S.length ≤ M := by
  have hm : ((S.map cd)).Nodup := by
    rw [List.nodup_iff_pairwise_ne, List.pairwise_map]
    refine List.Pairwise.imp_of_mem (R := fun a b => a ≠ b) (fun {a b} ha hb ne e => ?_) (List.nodup_iff_pairwise_ne.1 h.nd)
    obtain ⟨p, hp, rfl⟩ := mem_gdα (d := ((0 : Int), (0 : Int))) ha
    obtain ⟨q, hq, rfl⟩ := mem_gdα (d := ((0 : Int), (0 : Int))) hb
    exact ne (inj p q hp hq e)
  have := nodup_le M (S.map cd) hm fun c hc => by
    rw [List.mem_map] at hc
    obtain ⟨a, ha, rfl⟩ := hc
    obtain ⟨p, hp, rfl⟩ := mem_gdα (d := ((0 : Int), (0 : Int))) ha
    exact rg p hp
  simpa using this
theorem TiI.before (h : TiI m k p0 i x S V U) (hi : i < S.length) {p y : Nat} (hp : p < S.length) (ha : Ahd (V.getD p [] ++ [(y : Int)]) (V.getD i [] ++ [(x : Int)])) : p < i ∨ (p = i ∧ y < x) := by
  rcases Nat.lt_trichotomy p i with c | rfl | c
  · exact .inl c
  · rcases Nat.lt_trichotomy y x with e | rfl | e
    · exact .inr ⟨rfl, e⟩
    · exact absurd ha (Ahd.irrefl _)
    · exact absurd (ha.trans (Ahd.last _ (by omega))) (Ahd.irrefl _)
  · exact absurd (ha.trans ((h.srt i p c hp).snoc _ _)) (Ahd.irrefl _)
/-- What the first word begins with was come to by just that word. -/
theorem TiI.pre (h : TiI m k p0 i x S V U) (hk : m.k = (k : Int)) {w : List Int} (hw : IsF m m p0.1 p0.2 w)
    (G : ∀ p y : Nat, p < S.length → y < k → (V.getD p [] ++ [(y : Int)] = w ∨ Ahd (V.getD p [] ++ [(y : Int)]) w) → p < i ∨ p = i ∧ y < x) : ∀ (q r : List Int), r ≠ [] → q.reverse ++ r = w → ∃ p, p < S.length ∧ V.getD p [] = q.reverse
  | [], _, _, _ => ⟨0, h.ne, h.v0⟩
  | z :: q, r, hr, e => by
    rw [List.reverse_cons] at e ⊢
    have e' : q.reverse ++ (z :: r) = w := by rw [← e]; simp
    obtain ⟨p, hp, ep⟩ := h.pre hk hw G q (z :: r) (by simp) e'
    have hz := hw.wd z (by rw [← e']; simp)
    obtain ⟨y, rfl⟩ := Int.eq_ofNat_of_zero_le hz.1
    have ha : Ahd (V.getD p [] ++ [(y : Int)]) w := by rw [ep, ← e]; exact ahd_pre _ hr
    have hb := G p y hp (by omega) (.inr ha)
    have hc := h.cov p y (by omega) hp
    have hld := h.lead p hp
    rw [show p0 = (p0.1, p0.2) from rfl, eds_stp, ep] at hld
    have ht : tls m m (ends m p0.1 (q.reverse ++ [(y : Int)])) (ends m p0.2 (q.reverse ++ [(y : Int)])) r := by
      refine tls_to (fun c => hw.fst _ (fun z hz => hw.wd z (by rw [← e]; exact List.mem_append_left _ hz)) c (by rw [← ep]; exact ha)) ?_
      rw [e]; exact hw.tl
    rw [ends_snoc, ends_snoc] at ht
    have h1 : (stp m m (S.getD p (0, 0)) (y : Int)) = (nxt m (ends m p0.1 q.reverse) (y : Int), nxt m (ends m p0.2 q.reverse) (y : Int)) := by rw [← hld]; rfl
    rw [h1] at hc
    obtain ⟨a, b, ⟨c, hcl, ec, hor⟩, htl⟩ := hc.tells ht
    rw [ep] at hor
    rcases hor with hor | hor
    · exact ⟨c, hcl, hor⟩
    · exfalso
      have hlc := h.lead c hcl
      rw [show p0 = (p0.1, p0.2) from rfl, eds_stp, ec] at hlc
      have ea : ends m p0.1 (V.getD c []) = a := congrArg Prod.fst hlc
      have eb : ends m p0.2 (V.getD c []) = b := congrArg Prod.snd hlc
      rw [← ea, ← eb] at htl
      refine hw.fst (V.getD c [] ++ r) (fun z hz => ?_) (tls_fro htl) (by rw [← e]; exact hor.app r)
      rcases List.mem_append.1 hz with hz | hz
      · rw [hk]; exact h.sym c hcl z hz
      · exact hw.wd z (by rw [← e]; exact List.mem_append_right _ hz)
theorem TiI.no (h : TiI m k p0 i x S V U) (hc : m.kind = 1 ∨ m.kind = 2) (hk : m.k = (k : Int)) (h0 : ¬ tl0 m m p0.1 p0.2) (hT : ∀ j y, (j < i ∧ y < k ∨ j = i ∧ y < x) → j < S.length → ¬ tl1 m m (S.getD j (0, 0)) y) {w : List Int} (hw : IsF m m p0.1 p0.2 w)
    (G : ∀ p y : Nat, p < S.length → y < k → (V.getD p [] ++ [(y : Int)] = w ∨ Ahd (V.getD p [] ++ [(y : Int)]) w) → p < i ∨ p = i ∧ y < x) : False := by
  rcases List.eq_nil_or_concat w with e | ⟨u, z, e⟩
  · subst e
    exact h0 ((tls_nil rfl).1 hw.tl)
  · have e : w = u ++ [z] := by simpa using e
    obtain ⟨p, hp, ep⟩ := h.pre hk hw G u.reverse [z] (by simp) (by rw [List.reverse_reverse, e])
    rw [List.reverse_reverse] at ep
    have hz := hw.wd z (by rw [e]; simp)
    obtain ⟨y, rfl⟩ := Int.eq_ofNat_of_zero_le hz.1
    have hb := G p y hp (by omega) (.inl (by rw [ep, e]))
    have htl := hw.tl
    rw [e] at htl
    rcases (tls_snoc rfl hc u y).1 htl with ⟨_, h1⟩ | h1
    · exact hw.fst u (fun z hz => hw.wd z (by rw [e]; exact List.mem_append_left _ hz)) h1 (by rw [e]; exact ahd_self _ _)
    · have hld := h.lead p hp
      rw [show p0 = (p0.1, p0.2) from rfl, eds_stp, ep] at hld
      rw [hld] at h1
      exact hT p y (by omega) hp h1
/-- What the search finds is the first word. -/
theorem TiI.sep (h : TiI m k p0 i x S V U) (hc : m.kind = 1 ∨ m.kind = 2) (hk : m.k = (k : Int)) (hi : i < S.length) (hx : x < k) (h0 : ¬ tl0 m m p0.1 p0.2) (hT : ∀ j y, (j < i ∧ y < k ∨ j = i ∧ y < x) → j < S.length → ¬ tl1 m m (S.getD j (0, 0)) y) (ht : tl1 m m (S.getD i (0, 0)) x) : SepR m m p0.1 p0.2 (some (V.getD i [] ++ [(x : Int)])) := by
  have hld := h.lead i hi
  rw [show p0 = (p0.1, p0.2) from rfl, eds_stp] at hld
  have hwd : Wrd m.k (V.getD i [] ++ [(x : Int)]) := Wrd.snoc (fun y hy => by rw [hk]; exact h.sym i hi y hy) (by omega) (by omega)
  have htl : tls m m p0.1 p0.2 (V.getD i [] ++ [(x : Int)]) := (tls_snoc rfl hc _ _).2 (.inr (by rw [hld]; exact ht))
  obtain ⟨o, ho⟩ := sep_ex m m p0.1 p0.2
  cases o with
  | none => exact absurd htl (ho _ hwd)
  | some w =>
    have hw : IsF m m p0.1 p0.2 w := ho
    rcases Ahd.total w (V.getD i [] ++ [(x : Int)]) with c | c | c
    · refine (h.no hc hk h0 hT hw fun p y hp hy ha => h.before hi hp ?_).elim
      exact ahd_le_trans ha c
    · rw [← c]; exact ho
    · exact absurd c (hw.fst _ hwd htl)
theorem TiI.sepN (h : TiI m k p0 S.length x S V U) (hc : m.kind = 1 ∨ m.kind = 2) (hk : m.k = (k : Int)) (h0 : ¬ tl0 m m p0.1 p0.2) (hT : ∀ j y, j < S.length → y < k → ¬ tl1 m m (S.getD j (0, 0)) y) : SepR m m p0.1 p0.2 none := by
  obtain ⟨o, ho⟩ := sep_ex m m p0.1 p0.2
  cases o with
  | none => exact ho
  | some w => exact (h.no hc hk h0 (fun j y hc' hj => hT j y hj (by omega)) (show IsF m m p0.1 p0.2 w from ho) fun p y hp _ _ => .inl hp).elim
theorem tii_len (h : TiI m k p0 i x S V U) : ∀ p, p < S.length → (V.getD p []).length ≤ p
  | 0, _ => by rw [h.v0]; simp
  | p + 1, hp => by
    obtain ⟨j, y, hj, _, _, e, _⟩ := h.par (p + 1) (by omega) hp
    rw [e, List.length_append, List.length_singleton]
    have := tii_len h j (by omega)
    omega
  termination_by p => p
end

/-- Chains: g leads on, rt is where a chain ends, dp is how far it is. -/
structure UF (n : Nat) (g rt dp : Nat → Nat) : Prop where
  rg : ∀ s, s < n → g s < n
  rr : ∀ s, s < n → rt s < n
  fx : ∀ s, s < n → g (rt s) = rt s
  st : ∀ s, s < n → rt (g s) = rt s
  rf : ∀ s, s < n → g s = s → rt s = s
  dn : ∀ s, s < n → g s ≠ s → dp (g s) < dp s
def upN (f : Nat → Nat) (j x i : Nat) : Nat := if i = j then x else f i
theorem upN_same (f : Nat → Nat) (j x : Nat) : upN f j x j = x := if_pos rfl
theorem upN_ne {f : Nat → Nat} {j x i : Nat} (h : i ≠ j) : upN f j x i = f i := if_neg h
theorem UF.start (n : Nat) : UF n (fun s => s) (fun s => s) (fun _ => 0) := ⟨fun _ h => h, fun _ h => h, fun _ _ => rfl, fun _ _ => rfl, fun _ _ _ => rfl, fun _ _ h => absurd rfl h⟩
theorem UF.rtrt {n : Nat} {g rt dp : Nat → Nat} (h : UF n g rt dp) {s : Nat} (hs : s < n) : rt (rt s) = rt s := h.rf _ (h.rr s hs) (h.fx s hs)
/-- A chain made shorter. -/
theorem UF.halve {n : Nat} {g rt dp : Nat → Nat} (h : UF n g rt dp) {s : Nat} (hs : s < n) (hg : g s ≠ s) : UF n (upN g s (g (g s))) rt dp := by
  have g1 := h.rg s hs
  have g2 := h.rg _ g1
  have d1 := h.dn s hs hg
  have d2 : dp (g (g s)) < dp s := by
    by_cases c : g (g s) = g s
    · rw [c]; exact d1
    · exact Nat.lt_trans (h.dn _ g1 c) d1
  refine ⟨fun u hu => ?_, h.rr, fun u hu => ?_, fun u hu => ?_, fun u hu e => ?_, fun u hu e => ?_⟩
  · by_cases c : u = s
    · subst c; rw [upN_same]; exact g2
    · rw [upN_ne c]; exact h.rg u hu
  · have c : rt u ≠ s := fun c => hg (by rw [← c]; exact h.fx u hu)
    rw [upN_ne c]; exact h.fx u hu
  · by_cases c : u = s
    · subst c; rw [upN_same, h.st _ g1, h.st _ hs]
    · rw [upN_ne c]; exact h.st u hu
  · by_cases c : u = s
    · subst c
      rw [upN_same] at e
      rw [e] at d2; omega
    · rw [upN_ne c] at e; exact h.rf u hu e
  · by_cases c : u = s
    · subst c; rw [upN_same]; exact d2
    · rw [upN_ne c] at e ⊢; exact h.dn u hu e
def mrgR (rt : Nat → Nat) (a b u : Nat) : Nat := if rt u = rt a then rt b else rt u
def mrgD (rt dp : Nat → Nat) (a b u : Nat) : Nat := if rt u = rt a ∧ rt a ≠ rt b then dp u + dp (rt b) + 1 else dp u
/-- Two chains tied. -/
theorem UF.tie {n : Nat} {g rt dp : Nat → Nat} (h : UF n g rt dp) {a b : Nat} (ha : a < n) (hb : b < n) : UF n (upN g (rt a) (rt b)) (mrgR rt a b) (mrgD rt dp a b) := by
  have ra := h.rr a ha
  have rb := h.rr b hb
  have rta := h.rtrt ha
  have rtb := h.rtrt hb
  by_cases c : rt a = rt b
  · have e1 : ∀ u, upN g (rt a) (rt b) u = g u := fun u => by
      by_cases d : u = rt a
      · subst d; rw [upN_same, ← c, h.fx a ha]
      · exact upN_ne d
    have e2 : ∀ u, mrgR rt a b u = rt u := fun u => by
      unfold mrgR
      by_cases d : rt u = rt a
      · rw [if_pos d, ← c, d]
      · rw [if_neg d]
    have e3 : ∀ u, mrgD rt dp a b u = dp u := fun u => by
      unfold mrgD; rw [if_neg (fun x => x.2 c)]
    have E1 := funext e1
    have E2 := funext e2
    have E3 := funext e3
    rw [E1, E2, E3]
    exact h
  · have ne : rt b ≠ rt a := fun e => c e.symm
    have mb : ∀ u, rt u ≠ rt a → mrgR rt a b u = rt u := fun u hu => if_neg hu
    have ma : ∀ u, rt u = rt a → mrgR rt a b u = rt b := fun u hu => if_pos hu
    have db : ∀ u, rt u ≠ rt a → mrgD rt dp a b u = dp u := fun u hu => if_neg (fun x => hu x.1)
    have da : ∀ u, rt u = rt a → mrgD rt dp a b u = dp u + dp (rt b) + 1 := fun u hu => if_pos ⟨hu, c⟩
    have nb : rt (rt b) ≠ rt a := by rw [rtb]; exact ne
    refine ⟨fun u hu => ?_, fun u hu => ?_, fun u hu => ?_, fun u hu => ?_, fun u hu e => ?_, fun u hu e => ?_⟩
    · by_cases d : u = rt a
      · rw [d, upN_same]; exact rb
      · rw [upN_ne d]; exact h.rg u hu
    · by_cases d : rt u = rt a
      · rw [ma u d]; exact rb
      · rw [mb u d]; exact h.rr u hu
    · by_cases d : rt u = rt a
      · rw [ma u d, upN_ne ne]; exact h.fx b hb
      · rw [mb u d, upN_ne d]; exact h.fx u hu
    · by_cases d : u = rt a
      · subst d
        rw [upN_same, mb _ nb, rtb, ma _ rta]
      · rw [upN_ne d]
        by_cases f : rt u = rt a
        · rw [ma u f, ma _ (by rw [h.st u hu]; exact f)]
        · rw [mb u f, mb _ (by rw [h.st u hu]; exact f), h.st u hu]
    · by_cases d : u = rt a
      · subst d
        rw [upN_same] at e
        exact absurd e ne
      · rw [upN_ne d] at e
        have := h.rf u hu e
        rw [mb u (by rw [this]; exact d)]; exact this
    · by_cases d : u = rt a
      · subst d
        rw [upN_same, db _ nb, da _ rta]
        omega
      · rw [upN_ne d] at e ⊢
        have h1 := h.dn u hu e
        by_cases f : rt u = rt a
        · rw [da u f, da _ (by rw [h.st u hu]; exact f)]; omega
        · rw [db u f, db _ (by rw [h.st u hu]; exact f)]; exact h1
/-- The chains tell what the pairs hold together. -/
structure TH (n : Nat) (rt : Nat → Nat) (S : List (Int × Int)) : Prop where
  snd : ∀ u v, u < n → v < n → rt u = rt v → Hld (inS S) (u : Int) (v : Int)
  cmp : ∀ a b : Nat, ((a : Int), (b : Int)) ∈ S → rt a = rt b
theorem TH.start (n : Nat) : TH n (fun s => s) [] := ⟨fun u v _ _ e => by subst e; exact Hld.refl _ _, fun a b h => by cases h⟩
theorem TH.tie {n : Nat} {rt : Nat → Nat} {S : List (Int × Int)} (h : TH n rt S) {a b : Nat} (ha : a < n) (hb : b < n) : TH n (mrgR rt a b) (S ++ [((a : Int), (b : Int))]) := by
  have mo : ∀ {u v : Int}, Hld (inS S) u v → Hld (inS (S ++ [((a : Int), (b : Int))])) u v := fun H => H.mono fun x y hxy => List.mem_append_left _ hxy
  have on : Hld (inS (S ++ [((a : Int), (b : Int))])) (a : Int) (b : Int) := Hld.one (List.mem_append_right _ (by simp))
  refine ⟨fun p q hp hq e => ?_, fun p q hm => ?_⟩
  · unfold mrgR at e
    by_cases c : rt p = rt a
    · by_cases d : rt q = rt a
      · exact mo (h.snd p q hp hq (c.trans d.symm))
      · rw [if_pos c, if_neg d] at e
        exact (mo (h.snd p a hp ha c)).trans (on.trans (mo (h.snd b q hb hq e)))
    · by_cases d : rt q = rt a
      · rw [if_neg c, if_pos d] at e
        exact (mo (h.snd p b hp hb e)).trans (on.symm.trans (mo (h.snd a q ha hq d.symm)))
      · rw [if_neg c, if_neg d] at e
        exact mo (h.snd p q hp hq e)
  · unfold mrgR
    rcases List.mem_append.1 hm with hm | hm
    · have := h.cmp p q hm
      rw [this]
    · rw [List.mem_singleton] at hm
      have e1 : (p : Int) = a := congrArg Prod.fst hm
      have e2 : (q : Int) = b := congrArg Prod.snd hm
      have e1 : p = a := by omega
      have e2 : q = b := by omega
      rw [e1, e2, if_pos rfl]
      by_cases c : rt b = rt a
      · rw [if_pos c]
      · rw [if_neg c]
theorem TH.same {n : Nat} {rt : Nat → Nat} {S : List (Int × Int)} (h : TH n rt S) {a b : Nat} (e : rt a = rt b) : TH n (mrgR rt a b) S := by
  have e2 : ∀ u, mrgR rt a b u = rt u := fun u => by
    unfold mrgR
    by_cases d : rt u = rt a
    · rw [if_pos d, ← e, d]
    · rw [if_neg d]
  rw [funext e2]
  exact h
end Go.Proofs.Ytlcablkhomnieaa
