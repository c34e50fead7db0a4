/-
  The words of which something is kept, in the order; a row's places in the order of their words. Plain words.
-/
import Derived.Test.YtemalidanjfmkaaUTrc
import Derived.Test.YtemalidanjfmkaaK2
namespace Go.Proofs.Ytemalidanjfmkaa

/-- In the order, none twice. -/
def Srt (l : List (List Int)) : Prop := l.Pairwise Ahd
theorem srt_eq : ∀ {l l' : List (List Int)}, Srt l → Srt l' → (∀ u, u ∈ l ↔ u ∈ l') → l = l'
  | [], l', _, _, h => by
    cases l' with
    | nil => rfl
    | cons b t => exact absurd ((h b).2 (by simp)) (by simp)
  | a :: t, [], _, _, h => absurd ((h a).1 (by simp)) (by simp)
  | a :: t, b :: t', h1, h2, h => by
    have p1 := List.pairwise_cons.1 h1
    have p2 := List.pairwise_cons.1 h2
    have e : a = b := by
      rcases List.mem_cons.1 ((h a).1 (by simp)) with e | e
      · exact e
      · rcases List.mem_cons.1 ((h b).2 (by simp)) with e2 | e2
        · exact e2.symm
        · exact absurd ((p1.1 b e2).trans (p2.1 a e)) (Ahd.irrefl a)
    subst e
    have ht : t = t' := srt_eq p1.2 p2.2 fun u => by
      constructor
      · intro hu
        rcases List.mem_cons.1 ((h u).1 (by simp [hu])) with e | e
        · subst e; exact absurd (p1.1 u hu) (Ahd.irrefl u)
        · exact e
      · intro hu
        rcases List.mem_cons.1 ((h u).2 (by simp [hu])) with e | e
        · subst e; exact absurd (p2.1 u hu) (Ahd.irrefl u)
        · exact e
    rw [ht]
/-- What List and Words tell. (P11.5) -/
def Tld (c : Cs) (u : List Int) : Prop := u ∈ c.bg ∧ (findV c u).isSome = true ∧ ¬ (c.kind = 2 ∧ ∃ v, v ∈ c.bg ∧ v ≠ u ∧ begV v u = true)
def Wds (c : Cs) (L : List (List Int)) : Prop := Srt L ∧ ∀ u, u ∈ L ↔ Tld c u
theorem Wds.one {c : Cs} {L L' : List (List Int)} (h : Wds c L) (h' : Wds c L') : L = L' := srt_eq h.1 h'.1 fun u => (h.2 u).trans (h'.2 u).symm
theorem Wds.like {c c' : Cs} {L : List (List Int)} (h : Wds c L) (hk : c'.kind = c.kind) (hw : c'.ws = c.ws) (ho : c'.os = c.os) (hb : c'.bg = c.bg) : Wds c' L := by
  refine ⟨h.1, fun u => (h.2 u).trans ?_⟩
  unfold Tld findV
  rw [hk, hw, ho, hb]
theorem nodup_leN : ∀ (n : Nat) (l : List Nat), l.Nodup → (∀ a ∈ l, a < n) → l.length ≤ n := fun n l hd hl => by
  have := nodup_le n (l.map fun (x : Nat) => (x : Int)) (by
    unfold List.Nodup at hd ⊢
    rw [List.pairwise_map]
    exact hd.imp fun h e => h (by omega)) (fun a ha => by
    obtain ⟨x, hx, rfl⟩ := List.mem_map.1 ha
    have := hl x hx
    omega)
  simpa using this
theorem gn_mem {P : List Nat} {j : Nat} (h : j < P.length) : P.getD j 0 ∈ P := by
  rw [List.getD_eq_getElem?_getD, List.getElem?_eq_getElem h]; exact List.getElem_mem h
theorem mem_gn {P : List Nat} {p : Nat} (h : p ∈ P) : ∃ j, j < P.length ∧ P.getD j 0 = p := by
  obtain ⟨j, hj, e⟩ := List.mem_iff_getElem.1 h
  exact ⟨j, hj, by rw [List.getD_eq_getElem?_getD, List.getElem?_eq_getElem hj]; exact e⟩
section
variable {R : List En} {bg : List (List Int)} {P : List Nat} {i y : Nat}
theorem Tr.msr_kid (T : Tr R bg) {a : Nat} (hk : Kid R a y) : msr R (ea R y).n < msr R y := by
  have h1 := T.nx y hk.1 hk.2.1
  have h2 := T.sy y hk.1 hk.2.1
  have h0 : y ≠ 0 := by have := hk.1; omega
  unfold msr
  rw [if_neg h0]
  by_cases c : (ea R y).n = 0
  · rw [if_pos c]; omega
  · rw [if_neg c]
    have := (h1.kid c).2
    omega
/-- The places of the first i have their children. -/
structure Ino (R : List En) (bg : List (List Int)) (P : List Nat) (i : Nat) : Prop where
  pos : 0 < P.length
  z : P.getD 0 0 = 0
  lt : ∀ p ∈ P, p < R.length
  srt : Srt (P.map (wa bg))
  par : ∀ p ∈ P, p ≠ 0 → ∃ j, j < i ∧ j < P.length ∧ P.getD j 0 = (ea R p).p
  kid : ∀ j, j < i → j < P.length → ∀ z, Kid R (P.getD j 0) z → z ∈ P
/-- The place at i has its children ahead of y. -/
structure Ink (R : List En) (bg : List (List Int)) (P : List Nat) (i y : Nat) : Prop where
  hi : i < P.length
  z : P.getD 0 0 = 0
  lt : ∀ p ∈ P, p < R.length
  srt : Srt (P.map (wa bg))
  par : ∀ p ∈ P, p ≠ 0 → ∃ j, j ≤ i ∧ j < P.length ∧ P.getD j 0 = (ea R p).p
  kid : ∀ j, j < i → j < P.length → ∀ z, Kid R (P.getD j 0) z → z ∈ P
  now : ∀ z, Kid R (P.getD i 0) z → (z ∈ P ↔ (y = 0 ∨ (ea R z).s < (ea R y).s))
  yk : y ≠ 0 → Kid R (P.getD i 0) y
theorem srt_at (h : Srt (P.map (wa bg))) {j k : Nat} (hjk : j < k) (hk : k < P.length) : Ahd (wa bg (P.getD j 0)) (wa bg (P.getD k 0)) := by
  unfold Srt at h
  rw [List.pairwise_map, List.pairwise_iff_getElem] at h
  have := h j k (by omega) hk hjk
  rw [List.getD_eq_getElem?_getD, List.getElem?_eq_getElem (show j < P.length by omega), List.getD_eq_getElem?_getD, List.getElem?_eq_getElem hk]
  exact this
theorem srt_inj (h : Srt (P.map (wa bg))) {j k : Nat} (hj : j < P.length) (hk : k < P.length) (e : P.getD j 0 = P.getD k 0) : j = k := by
  rcases Nat.lt_trichotomy j k with c | c | c
  · have := srt_at h c hk; rw [e] at this; exact absurd this (Ahd.irrefl _)
  · exact c
  · have := srt_at h c hj; rw [e] at this; exact absurd this (Ahd.irrefl _)
theorem srt_nd (h : Srt (P.map (wa bg))) : P.Nodup := by
  unfold Srt at h
  rw [List.pairwise_map] at h
  exact h.imp fun {a b} ha e => by subst e; exact Ahd.irrefl _ ha
theorem Ino.len (h : Ino R bg P i) : P.length ≤ R.length := nodup_leN _ _ (srt_nd h.srt) h.lt
theorem Ink.len (h : Ink R bg P i y) : P.length ≤ R.length := nodup_leN _ _ (srt_nd h.srt) h.lt
theorem Ino.start (T : Tr R bg) : Ino R bg [0] 0 := by
  refine ⟨by simp, rfl, fun p hp => ?_, by unfold Srt; simp, fun p hp h0 => ?_, fun j hj => by omega⟩
  · obtain rfl : p = 0 := by simpa using hp
    exact T.pos
  · exact absurd (by simpa using hp) h0
theorem Ino.begin (T : Tr R bg) (h : Ino R bg P i) (hi : i < P.length) : Ink R bg P i (ea R (P.getD i 0)).c := by
  have ha := h.lt _ (gn_mem hi)
  have hc := T.ch _ ha
  refine ⟨hi, h.z, h.lt, h.srt, fun p hp h0 => ?_, h.kid, fun z hz => ?_, fun h0 => (hc.kid h0).1⟩
  · obtain ⟨j, h1, h2, h3⟩ := h.par p hp h0
    exact ⟨j, by omega, h2, h3⟩
  · have hs := T.sy z hz.1 hz.2.1
    have hno : z ∉ P := fun hm => by
      obtain ⟨j, h1, h2, h3⟩ := h.par z hm (by have := hz.1; omega)
      rw [hz.2.2] at h3
      have := srt_inj h.srt h2 hi h3
      omega
    refine ⟨fun hm => absurd hm hno, fun hq => ?_⟩
    rcases hc with ⟨-, h1⟩ | ⟨h1, h2, h3⟩
    · have := h1 z hz; omega
    · have := h3 z hz (by omega)
      have := h1.1
      omega
theorem Ink.ahd (T : Tr R bg) (h : Ink R bg P i y) (h0 : y ≠ 0) : ∀ q ∈ P, Ahd (wa bg q) (wa bg y) := fun q hq => by
  have hk := h.yk h0
  rw [T.kid_word hk]
  by_cases q0 : q = 0
  · subst q0; rw [T.root]; exact Ahd.nil _ _
  · obtain ⟨j, h1, h2, h3⟩ := h.par q hq q0
    have hkq : Kid R (P.getD j 0) q := ⟨by omega, h.lt q hq, h3.symm⟩
    rw [T.kid_word hkq]
    by_cases c : j = i
    · subst c
      rcases (h.now q hkq).1 hq with e | e
      · exact absurd e h0
      · exact Ahd.last _ e
    · exact (srt_at h.srt (by omega) h.hi).snoc _ _
theorem Ink.next (T : Tr R bg) (h : Ink R bg P i y) (h0 : y ≠ 0) : Ink R bg (P ++ [y]) i (ea R y).n := by
  have hk := h.yk h0
  have ah := h.ahd T h0
  have hnx := T.nx y hk.1 hk.2.1
  rw [hk.2.2] at hnx
  have gi : (P ++ [y]).getD i 0 = P.getD i 0 := gdn_left h.hi
  refine ⟨by rw [List.length_append]; have := h.hi; omega, by rw [gdn_left (by have := h.hi; omega)]; exact h.z, fun p hp => ?_, ?_, fun p hp p0 => ?_, fun j h1 h2 z hz => ?_, fun z hz => ?_, fun n0 => ?_⟩
  · rcases List.mem_append.1 hp with hp | hp
    · exact h.lt p hp
    · obtain rfl : p = y := by simpa using hp
      exact hk.2.1
  · unfold Srt
    rw [List.map_append, List.pairwise_append]
    refine ⟨h.srt, by simp, fun a ha b hb => ?_⟩
    obtain ⟨q, hq, rfl⟩ := List.mem_map.1 ha
    obtain rfl : b = wa bg y := by simpa using hb
    exact ah q hq
  · rcases List.mem_append.1 hp with hp | hp
    · obtain ⟨j, h1, h2, h3⟩ := h.par p hp p0
      exact ⟨j, h1, by rw [List.length_append]; omega, by rw [gdn_left h2]; exact h3⟩
    · obtain rfl : p = y := by simpa using hp
      exact ⟨i, Nat.le_refl _, by rw [List.length_append]; have := h.hi; omega, by rw [gi]; exact hk.2.2.symm⟩
  · have := h.hi
    rw [gdn_left (by omega)] at hz
    exact List.mem_append.2 (.inl (h.kid j h1 (by omega) z hz))
  · rw [gi] at hz
    rw [List.mem_append, h.now z hz, List.mem_singleton]
    have hsz := T.kid_one hz hk
    rcases hnx with ⟨e, h1⟩ | ⟨h1, h2, h3⟩
    · rw [e]
      have := h1 z hz
      refine ⟨fun _ => .inl rfl, fun _ => ?_⟩
      by_cases c : (ea R z).s = (ea R y).s
      · exact .inr (hsz c)
      · exact .inl (.inr (by omega))
    · have hn0 : (ea R y).n ≠ 0 := by have := h1.1; omega
      constructor
      · rintro ((q | q) | q)
        · exact absurd q h0
        · exact .inr (by omega)
        · subst q; exact .inr h2
      · rintro (q | q)
        · exact absurd q hn0
        · by_cases c : (ea R z).s = (ea R y).s
          · exact .inr (hsz c)
          · refine .inl (.inr (Classical.byContradiction fun d => ?_))
            have := h3 z hz (by omega)
            omega
  · rw [gi]; exact (hnx.kid n0).1
theorem Ink.done (h : Ink R bg P i 0) : Ino R bg P (i + 1) := by
  refine ⟨by have := h.hi; omega, h.z, h.lt, h.srt, fun p hp p0 => ?_, fun j h1 h2 z hz => ?_⟩
  · obtain ⟨j, h1, h2, h3⟩ := h.par p hp p0
    exact ⟨j, by omega, h2, h3⟩
  · by_cases c : j = i
    · subst c; exact (h.now z hz).2 (.inl rfl)
    · exact h.kid j (by omega) h2 z hz
/-- All places are there. -/
theorem Ino.all (T : Tr R bg) (h : Ino R bg P P.length) : ∀ (n z : Nat), z ≤ n → z < R.length → z ∈ P
  | n, 0, _, _ => by rw [← h.z]; exact gn_mem h.pos
  | 0, z + 1, hz, _ => by omega
  | n + 1, z + 1, hz, hl => by
    obtain ⟨h1, h2⟩ := T.par (z + 1) (by omega) hl
    have hm := Ino.all T h n (ea R (z + 1)).p (by omega) (by omega)
    obtain ⟨j, hj, e⟩ := mem_gn hm
    exact h.kid j hj hj (z + 1) ⟨by omega, hl, e.symm⟩
end
/-- Is the word at a place told? -/
def keepP (c : Cs) (R : List En) (p : Nat) : Bool := (ea R p).kn && !(decide (c.kind = 2) && !decide ((ea R p).c = 0))
def wdsV (c : Cs) (R : List En) (P : List Nat) : List (List Int) := (P.filter (keepP c R)).map (wa c.bg)
theorem kid_ext {c : Cs} {R : List En} (I : Ri c R) {p : Nat} (hp : p < R.length) : (ea R p).c ≠ 0 ↔ ∃ v, v ∈ c.bg ∧ v ≠ wa c.bg p ∧ begV v (wa c.bg p) = true := by
  have T := I.tr
  have hc := T.ch p hp
  constructor
  · intro h0
    obtain ⟨hk, -⟩ := hc.kid h0
    have hw := T.kid_word hk
    refine ⟨wa c.bg (ea R p).c, wa_mem (by rw [← T.len]; exact hk.2.1), fun e => ?_, begV_iff.2 ?_⟩
    · rw [hw] at e; have := congrArg List.length e; simp at this
    · rw [hw]; simp
  · rintro ⟨v, hv, hne, hb⟩ h0
    obtain ⟨b1, b2⟩ := begV_iff.1 hb
    have hlt : (wa c.bg p).length < v.length := by
      refine Classical.byContradiction fun d => hne ?_
      rw [b2, List.take_of_length_le (by omega)]
    have hm := T.pref hv ((wa c.bg p).length + 1)
    rw [take_next hlt, ← b2] at hm
    obtain ⟨y, hy, e⟩ := mem_wa hm
    obtain ⟨hk, -⟩ := T.kid_of hp (by rw [T.len]; exact hy) e
    rw [h0] at hc
    have hs := T.sy y hk.1 hk.2.1
    rcases hc with ⟨-, h1⟩ | ⟨h1, -⟩
    · have := h1 y hk; omega
    · have := h1.1; omega
theorem wds_of {c : Cs} {R : List En} {P : List Nat} (I : Ri c R) (h : Ino R c.bg P P.length) : Wds c (wdsV c R P) := by
  have T := I.tr
  refine ⟨?_, fun u => ?_⟩
  · unfold wdsV
    exact List.Pairwise.sublist (List.Sublist.map _ List.filter_sublist) h.srt
  · unfold wdsV Tld
    rw [List.mem_map]
    constructor
    · rintro ⟨p, hp, rfl⟩
      obtain ⟨hp, hkp⟩ := List.mem_filter.1 hp
      have hlt := h.lt p hp
      have hn := (I.nt p hlt).1
      unfold keepP at hkp
      rw [Bool.and_eq_true] at hkp
      refine ⟨wa_mem (by rw [← T.len]; exact hlt), by rw [← hn]; exact hkp.1, ?_⟩
      rintro ⟨k2, hex⟩
      have := (kid_ext I hlt).2 hex
      simp [k2, this] at hkp
    · rintro ⟨hm, hf, hn⟩
      obtain ⟨p, hp, rfl⟩ := mem_wa hm
      have hlt : p < R.length := by rw [T.len]; exact hp
      refine ⟨p, List.mem_filter.2 ⟨h.all T p p (Nat.le_refl _) hlt, ?_⟩, rfl⟩
      unfold keepP
      rw [(I.nt p hlt).1, hf]
      by_cases k2 : c.kind = 2
      · have h0 : (ea R p).c = 0 := Classical.byContradiction fun d => hn ⟨k2, (kid_ext I hlt).1 d⟩
        simp [h0]
      · simp [k2]
/-- How the list grows, place by place. -/
theorem wdsV_next {c : Cs} {R : List En} {P : List Nat} {t : Nat} (h : t < P.length) : wdsV c R (P.take (t + 1)) = wdsV c R (P.take t) ++ (if keepP c R (P.getD t 0) = true then [wa c.bg (P.getD t 0)] else []) := by
  have e : P.take (t + 1) = P.take t ++ [P.getD t 0] := by
    rw [List.take_succ_eq_append_getElem h]; simp [List.getD_eq_getElem?_getD, h]
  unfold wdsV
  rw [e, List.filter_append, List.map_append]
  by_cases k : keepP c R (P.getD t 0) = true
  · rw [if_pos k]; simp only [List.filter_cons, List.filter_nil, k]; rfl
  · rw [if_neg k]; simp only [List.filter_cons, List.filter_nil, k]; rfl

end Go.Proofs.Ytemalidanjfmkaa
