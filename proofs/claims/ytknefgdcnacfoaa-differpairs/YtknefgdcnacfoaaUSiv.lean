/-
  Words in their order as a sieve: what each parts, which are the first ones of some pair: in plain words.
-/
import Derived.Test.YtknefgdcnacfoaaK16
import Derived.Test.YtknefgdcnacfoaaK20
namespace Go.Proofs.Ytknefgdcnacfoaa

/-- What is said last of a word. -/
def lst (m : Mc) : List Int → Int → Int
  | [], s => m.out.getD s.toNat 0
  | [x], s => sdB m s x
  | x :: y :: w, s => lst m (y :: w) (nxt m s x)
theorem lst_snoc (m : Mc) (y : Int) : ∀ (u : List Int) (s : Int), lst m (u ++ [y]) s = sdB m (ends m s u) y
  | [], s => rfl
  | [x], s => rfl
  | x :: z :: u, s => by
    show lst m (z :: (u ++ [y])) (nxt m s x) = _
    exact lst_snoc m y (z :: u) (nxt m s x)
theorem lst_cons1 {m : Mc} (h : m.kind = 1) (x : Int) : ∀ (w : List Int) (s : Int), lst m (x :: w) s = lst m w (nxt m s x)
  | [], s => by show sdB m s x = _; unfold sdB; rw [if_pos h]; rfl
  | _ :: _, _ => rfl
theorem lst_cons2 {m : Mc} {x : Int} {w : List Int} (h : w ≠ []) (s : Int) : lst m (x :: w) s = lst m w (nxt m s x) := by
  cases w with
  | nil => exact absurd rfl h
  | cons y w => rfl
/-- The words of which something is said. -/
def Sayd (m : Mc) (w : List Int) : Prop := w ≠ [] ∨ m.kind = 1
theorem lst_tl {m : Mc} (hc : m.kind = 1 ∨ m.kind = 2) {s t : Int} {w : List Int} (hw : Wrd m.k w) (hs : Sayd m w) (h : lst m w s ≠ lst m w t) : tls m m s t w := by
  rcases List.eq_nil_or_concat w with e | ⟨u, z, e⟩
  · subst e
    rcases hs with hs | hs
    · exact absurd rfl hs
    · exact (tls_nil rfl).2 ⟨hs, h⟩
  · have e : w = u ++ [z] := by simpa using e
    subst e
    have hz := hw z (by simp)
    obtain ⟨y, rfl⟩ := Int.eq_ofNat_of_zero_le hz.1
    rw [lst_snoc, lst_snoc] at h
    exact (tls_snoc rfl hc u y).2 (.inr (tl1_sd.2 h))
theorem tl_lst {m : Mc} (hc : m.kind = 1 ∨ m.kind = 2) {s t : Int} {w : List Int} (h : IsF m m s t w) : Sayd m w ∧ lst m w s ≠ lst m w t := by
  rcases List.eq_nil_or_concat w with e | ⟨u, z, e⟩
  · subst e
    have := (tls_nil rfl).1 h.tl
    exact ⟨.inr this.1, this.2⟩
  · have e : w = u ++ [z] := by simpa using e
    subst e
    refine ⟨.inl (by simp), ?_⟩
    have hz := h.wd z (by simp)
    obtain ⟨y, rfl⟩ := Int.eq_ofNat_of_zero_le hz.1
    rw [lst_snoc, lst_snoc]
    rcases (tls_snoc rfl hc u y).1 h.tl with ⟨_, h1⟩ | h1
    · exact absurd (ahd_self _ _) (h.fst u (fun z hz => h.wd z (List.mem_append_left _ hz)) h1)
    · exact tl1_sd.1 h1
theorem IsF.symm {m : Mc} {s t : Int} {w : List Int} (h : IsF m m s t w) : IsF m m t s w := ⟨h.wd, fun e => h.tl e.symm, fun v hv ht => h.fst v hv fun e => ht e.symm⟩
theorem IsF.irrefl {m : Mc} {s : Int} {w : List Int} (h : IsF m m s s w) : False := h.tl rfl
/-- What a first word has behind its first symbol is one, too. -/
theorem IsF.tail {m : Mc} {s t x : Int} {r : List Int} (hs : Sayd m r) (h : IsF m m s t (x :: r)) : IsF m m (nxt m s x) (nxt m t x) r := by
  have hx := h.wd x (by simp)
  have F : ∀ v, Wrd m.k v → tls m m (nxt m s x) (nxt m t x) v → tls m m s t (x :: v) := fun v _ ht => tls_fro (u := [x]) ht
  refine ⟨fun y hy => h.wd y (by simp [hy]), ?_, fun v hv ht ha => ?_⟩
  · by_cases h1 : m.kind = 1
    · have ht := h.tl
      unfold tls at ht ⊢
      rw [goV_one (by omega), goV_one (by omega)] at ht
      exact ht
    · have hr : r ≠ [] := by
        rcases hs with h2 | h2
        · exact h2
        · exact absurd h2 h1
      refine tls_to (u := [x]) (r := r) (fun c => ?_) h.tl
      exact h.fst [x] (fun y hy => by rw [List.mem_singleton] at hy; subst hy; exact hx) c (ahd_pre [x] hr)
  · refine h.fst (x :: v) (fun y hy => ?_) (F v hv ht) ?_
    · rcases List.mem_cons.1 hy with rfl | hy
      · exact hx
      · exact hv y hy
    · rcases ha with ha | ⟨ha, hl⟩
      · exact .inl (by simpa using ha)
      · exact .inr ⟨by simpa using ha, .inr ⟨rfl, hl⟩⟩

/-- One pair is not behind the other. -/
def Ple (s t s' t' : Nat) : Prop := s < s' ∨ (s = s' ∧ t ≤ t')
/-- A mark: a word, and the first pair of which it is the first word. -/
structure MkOk (m : Mc) (n : Nat) (w : List Int) (s t : Nat) : Prop where
  st : s < t
  tn : t < n
  isf : IsF m m s t w
  le : ∀ s' t' : Nat, s' < t' → t' < n → IsF m m s' t' w → Ple s t s' t'
/-- The sieve behind the words of D: the classes' least states, the marks. -/
structure Siv (m : Mc) (n : Nat) (D : List Int → Prop) (ls : Nat → Nat) (M : List (List Int × Nat × Nat)) : Prop where
  cl : ∀ s t, s < n → t < n → (ls s = ls t ↔ ∀ w, D w → ¬ IsF m m s t w)
  mn : ∀ t, t < n → ls t ≤ t ∧ ls (ls t) = ls t
  mks : ∀ i, i < M.length → D (M.getD i ([], 0, 0)).1 ∧ MkOk m n (M.getD i ([], 0, 0)).1 (M.getD i ([], 0, 0)).2.1 (M.getD i ([], 0, 0)).2.2
  cp : ∀ w s t, s < n → t < n → D w → IsF m m s t w → ∃ i, i < M.length ∧ (M.getD i ([], 0, 0)).1 = w
  srt : ∀ i j, i < j → j < M.length → Ahd (M.getD i ([], 0, 0)).1 (M.getD j ([], 0, 0)).1
/-- One more word. -/
def orW (D : List Int → Prop) (w v : List Int) : Prop := D v ∨ v = w
/-- The classes parted by what is said. -/
def PartOf (n : Nat) (ls : Nat → Nat) (sd : Nat → Int) (ls' : Nat → Nat) : Prop :=
  ∀ t, t < n → ls' t ≤ t ∧ ls (ls' t) = ls t ∧ sd (ls' t) = sd t ∧ ∀ u, u < n → ls u = ls t → sd u = sd t → ls' t ≤ u
theorem PartOf.iff {n : Nat} {ls ls' : Nat → Nat} {sd : Nat → Int} (h : PartOf n ls sd ls') {s t : Nat} (hs : s < n) (ht : t < n) : ls' s = ls' t ↔ ls s = ls t ∧ sd s = sd t := by
  obtain ⟨a1, a2, a3, a4⟩ := h s hs
  obtain ⟨b1, b2, b3, b4⟩ := h t ht
  constructor
  · intro e
    exact ⟨by rw [← a2, e, b2], by rw [← a3, e, b3]⟩
  · rintro ⟨e1, e2⟩
    have h1 := a4 (ls' t) (by omega) (by rw [b2, e1]) (by rw [b3, e2])
    have h2 := b4 (ls' s) (by omega) (by rw [a2, e1]) (by rw [a3, e2])
    omega
section
variable {m : Mc} {n : Nat} {D : List Int → Prop} {ls : Nat → Nat} {M : List (List Int × Nat × Nat)}
theorem Siv.congr {D' : List Int → Prop} (h : Siv m n D ls M) (e : ∀ w (s t : Nat), s < n → t < n → IsF m m s t w → (D w ↔ D' w)) : Siv m n D' ls M := by
  refine ⟨fun s t hs ht => (h.cl s t hs ht).trans ⟨fun h1 w hd hi => h1 w ((e w s t hs ht hi).2 hd) hi, fun h1 w hd hi => h1 w ((e w s t hs ht hi).1 hd) hi⟩, h.mn, fun i hi => ?_, fun w s t hs ht hd hi => h.cp w s t hs ht ((e w s t hs ht hi).2 hd) hi, h.srt⟩
  obtain ⟨h1, h2⟩ := h.mks i hi
  exact ⟨(e _ _ _ (Nat.lt_trans h2.st h2.tn) h2.tn h2.isf).1 h1, h2⟩
/-- Of states that are held together: a word is their first one just where not the same is said last. -/
theorem Siv.first (h : Siv m n D ls M) (hc : m.kind = 1 ∨ m.kind = 2) {w : List Int} (hw : Wrd m.k w) (hs : Sayd m w) (H1 : ∀ v (s t : Nat), s < n → t < n → IsF m m s t v → Ahd v w → D v) {s t : Nat} (s1 : s < n) (t1 : t < n) (e : ls s = ls t) : IsF m m s t w ↔ lst m w s ≠ lst m w t := by
  constructor
  · exact fun hi => (tl_lst hc hi).2
  · intro hl
    have ht := lst_tl hc hw hs hl
    obtain ⟨o, ho⟩ := sep_ex m m s t
    cases o with
    | none => exact absurd ht (ho w hw)
    | some v =>
      have hv : IsF m m s t v := ho
      rcases Ahd.total v w with c | c | c
      · exact absurd hv ((h.cl s t s1 t1).1 e v (H1 v s t s1 t1 hv c))
      · rw [← c]; exact hv
      · exact absurd c (hv.fst w hw ht)
/-- A word that parts nothing. -/
theorem Siv.none (h : Siv m n D ls M) (hc : m.kind = 1 ∨ m.kind = 2) {w : List Int} (hw : Wrd m.k w) (hs : Sayd m w) (H1 : ∀ v (s t : Nat), s < n → t < n → IsF m m s t v → Ahd v w → D v) (hN : ¬ D w) (hz : ∀ t, t < n → lst m w (ls t : Nat) = lst m w t) : Siv m n (orW D w) ls M := by
  refine h.congr fun v s t s1 t1 hi => ⟨.inl, fun hd => ?_⟩
  rcases hd with hd | rfl
  · exact hd
  · exfalso
    by_cases e : ls s = ls t
    · have := (h.first hc hw hs H1 s1 t1 e).1 hi
      rw [← hz s s1, ← hz t t1, e] at this
      exact this rfl
    · have : ∃ u, D u ∧ IsF m m s t u := Classical.byContradiction fun c => e ((h.cl s t s1 t1).2 fun u hu hiu => c ⟨u, hu, hiu⟩)
      obtain ⟨u, hu, hiu⟩ := this
      rw [IsF.one hi hiu] at hN
      exact hN hu
/-- A word that parts something: (s, t) is the first pair that it parts, with s the least one of its class. -/
theorem Siv.some (h : Siv m n D ls M) (hc : m.kind = 1 ∨ m.kind = 2) {w : List Int} (hw : Wrd m.k w) (hs : Sayd m w) (H1 : ∀ v (s t : Nat), s < n → t < n → IsF m m s t v → Ahd v w → D v) (H2 : ∀ v (s t : Nat), s < n → t < n → D v → IsF m m s t v → Ahd v w) (hN : ¬ D w)
    {ls' : Nat → Nat} (hp : PartOf n ls (fun t => lst m w t) ls') {s t : Nat} (t1 : t < n) (hst : s = ls t) (hne : lst m w (s : Nat) ≠ lst m w t) (hmin : ∀ t', t' < n → lst m w (ls t' : Nat) ≠ lst m w t' → s < ls t' ∨ (s = ls t' ∧ t ≤ t')) : Siv m n (orW D w) ls' (M ++ [(w, s, t)]) := by
  have hmt := h.mn t t1
  have s1 : s < n := by omega
  have els : ls s = ls t := by rw [hst]; exact hmt.2
  have hi : IsF m m s t w := (h.first hc hw hs H1 s1 t1 els).2 hne
  have hlt : s < t := by
    have : s ≠ t := fun e => hne (by rw [e])
    omega
  have L : (M ++ [(w, s, t)]).length = M.length + 1 := by simp
  have gM : ∀ i, i < M.length → (M ++ [(w, s, t)]).getD i ([], 0, 0) = M.getD i ([], 0, 0) := fun i hi => gd_left _ hi
  have eM : (M ++ [(w, s, t)]).getD M.length ([], 0, 0) = (w, s, t) := gd_mid _ _ _
  refine ⟨fun a b ha hb => ?_, fun a ha => ?_, fun i hi' => ?_, fun v a b ha hb hd hv => ?_, fun i j hij hj => ?_⟩
  · rw [hp.iff ha hb, h.cl a b ha hb]
    constructor
    · rintro ⟨h1, h2⟩ v hv hiv
      rcases hv with hv | rfl
      · exact h1 v hv hiv
      · exact (h.first hc hw hs H1 ha hb ((h.cl a b ha hb).2 h1)).1 hiv h2
    · intro h1
      have h2 : ∀ v, D v → ¬ IsF m m a b v := fun v hv => h1 v (.inl hv)
      refine ⟨h2, Classical.byContradiction fun c => ?_⟩
      exact h1 w (.inr rfl) ((h.first hc hw hs H1 ha hb ((h.cl a b ha hb).2 h2)).2 c)
  · have h1 := hp a ha
    exact ⟨h1.1, (hp.iff (by omega) ha).2 ⟨h1.2.1, h1.2.2.1⟩⟩
  · rw [L] at hi'
    by_cases e : i = M.length
    · subst e
      rw [eM]
      refine ⟨.inr rfl, hlt, t1, hi, fun s' t' h1 h2 h3 => ?_⟩
      have h3 : IsF m m s' t' w := h3
      have hs' : s' < n := by omega
      have e1 : ls s' = ls t' := by
        refine Classical.byContradiction fun c => ?_
        have : ∃ u, D u ∧ IsF m m s' t' u := Classical.byContradiction fun c2 => c ((h.cl s' t' hs' h2).2 fun u hu hiu => c2 ⟨u, hu, hiu⟩)
        obtain ⟨u, hu, hiu⟩ := this
        rw [IsF.one h3 hiu] at hN
        exact hN hu
      have hd := (h.first hc hw hs H1 hs' h2 e1).1 h3
      have hms := h.mn s' hs'
      show s < s' ∨ (s = s' ∧ t ≤ t')
      by_cases c : lst m w (ls t' : Nat) = lst m w t'
      · have c2 : lst m w (ls s' : Nat) ≠ lst m w s' := fun e => hd (by rw [← e, e1, c])
        rcases hmin s' hs' c2 with h5 | ⟨h5, h6⟩
        · left; omega
        · have : s' ≠ ls s' := fun e => c2 (by rw [← e])
          left; omega
      · rcases hmin t' h2 c with h5 | ⟨h5, h6⟩
        · left; rw [← e1] at h5; omega
        · rw [← e1] at h5
          by_cases c3 : s' = ls s'
          · right; exact ⟨by omega, h6⟩
          · left; omega
    · have hi2 : i < M.length := by omega
      rw [gM i hi2]
      exact ⟨.inl (h.mks i hi2).1, (h.mks i hi2).2⟩
  · rcases hd with hd | rfl
    · obtain ⟨i, hi2, e⟩ := h.cp v a b ha hb hd hv
      exact ⟨i, by rw [L]; omega, by rw [gM i hi2]; exact e⟩
    · exact ⟨M.length, by rw [L]; omega, by rw [eM]⟩
  · rw [L] at hj
    by_cases e : j = M.length
    · subst e
      rw [eM, gM i hij]
      have h1 := h.mks i hij
      exact H2 _ _ _ (Nat.lt_trans h1.2.st h1.2.tn) h1.2.tn h1.1 h1.2.isf
    · rw [gM i (by omega), gM j (by omega)]; exact h.srt i j hij (by omega)
/-- There are no more marks than pairs. -/
theorem Siv.len (h : Siv m n D ls M) : M.length ≤ n * n := by
  have hm : ((M.map fun k => ((k.2.1 * n + k.2.2 : Nat) : Int))).Nodup := by
    rw [List.nodup_iff_pairwise_ne, List.pairwise_map, List.pairwise_iff_getElem]
    intro i j hi hj hij e
    have h1 := (h.mks i hi).2
    have h2 := (h.mks j hj).2
    have h3 := h.srt i j hij hj
    have gi : M.getD i ([], 0, 0) = M[i] := by simp [List.getD, hi]
    have gj : M.getD j ([], 0, 0) = M[j] := by simp [List.getD, hj]
    rw [gi] at h1 h3
    rw [gj] at h2 h3
    have t1 := h1.tn
    have t2 := h2.tn
    have e : M[i].2.1 * n + M[i].2.2 = M[j].2.1 * n + M[j].2.2 := by omega
    have e1 : M[i].2.1 = M[j].2.1 := by
      have d1 : (M[i].2.1 * n + M[i].2.2) / n = M[i].2.1 := by rw [Nat.add_comm, Nat.add_mul_div_right _ _ (by omega), Nat.div_eq_of_lt t1]; omega
      have d2 : (M[j].2.1 * n + M[j].2.2) / n = M[j].2.1 := by rw [Nat.add_comm, Nat.add_mul_div_right _ _ (by omega), Nat.div_eq_of_lt t2]; omega
      rw [← d1, e, d2]
    have e2 : M[i].2.2 = M[j].2.2 := by rw [e1] at e; omega
    have i1 := h1.isf
    have i2 := h2.isf
    rw [e1, e2] at i1
    rw [IsF.one i1 i2] at h3
    exact Ahd.irrefl _ h3
  have := nodup_le (n * n) _ hm fun c hc => by
    obtain ⟨a, ha, rfl⟩ := List.mem_map.1 hc
    obtain ⟨i, hi, e⟩ := List.getElem_of_mem ha
    have h1 := (h.mks i hi).2
    have gi : M.getD i ([], 0, 0) = M[i] := by simp [List.getD, hi]
    rw [gi, e] at h1
    have t1 := h1.tn
    have s1 := h1.st
    have : (a.2.1 + 1) * n ≤ n * n := Nat.mul_le_mul_right n (by omega)
    rw [Nat.add_mul] at this
    refine ⟨by omega, ?_⟩
    have : a.2.1 * n + a.2.2 < n * n := by omega
    exact_mod_cast this
  simpa using this
/-- Where each state is alone all first words are found. -/
theorem Siv.alone (h : Siv m n D ls M) (ha : ∀ t, t < n → ls t = t) : Siv m n (fun _ => True) ls M := by
  refine h.congr fun w s t hs ht hi => ⟨fun _ => trivial, fun _ => ?_⟩
  have hne : s ≠ t := fun e => by subst e; exact hi.irrefl
  have : ∃ u, D u ∧ IsF m m s t u := Classical.byContradiction fun c => hne (by
    have := (h.cl s t hs ht).2 fun u hu hiu => c ⟨u, hu, hiu⟩
    rw [ha s hs, ha t ht] at this
    exact this)
  obtain ⟨u, hu, hiu⟩ := this
  rw [IsF.one hi hiu]; exact hu
end
end Go.Proofs.Ytknefgdcnacfoaa
