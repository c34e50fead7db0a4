/-
  The sieve, level by level: all first words come, in their order: in plain words.
-/
import Derived.Test.YtknefgdcnacfoaaUSiv
namespace Go.Proofs.Ytknefgdcnacfoaa

/-- The i-th mark's word. -/
def wdA (M : List (List Int × Nat × Nat)) (i : Nat) : List Int := (M.getD i ([], 0, 0)).1
theorem wdA_left {M N : List (List Int × Nat × Nat)} {i : Nat} (h : i < M.length) : wdA (M ++ N) i = wdA M i := by unfold wdA; rw [gd_left _ h]
theorem nat_nxt {m : Mc} {n : Nat} (R : Right m) (hn : m.n = (n : Int)) {s : Nat} {x : Int} (hs : s < n) (x0 : 0 ≤ x) (x1 : x < m.k) : ∃ u : Nat, u < n ∧ nxt m s x = (u : Int) := by
  obtain ⟨y, rfl⟩ := Int.eq_ofNat_of_zero_le x0
  have h := nxt_range R (s := (s : Int)) (by omega) (by omega) x1
  obtain ⟨u, hu⟩ := Int.eq_ofNat_of_zero_le h.1
  exact ⟨u, by omega, hu⟩
/-- Of a long first word a shorter end is one. -/
theorem tails {m : Mc} {n : Nat} (R : Right m) (hn : m.n = (n : Int)) {l : Nat} (h0 : l = 0 → m.kind = 1) : ∀ (w : List Int) (s t : Nat), s < n → t < n → IsF m m s t w → l ≤ w.length → ∃ (v : List Int) (s' t' : Nat), s' < n ∧ t' < n ∧ v.length = l ∧ IsF m m s' t' v
  | [], s, t, hs, ht, h, hl => ⟨[], s, t, hs, ht, by simp at hl; simp; omega, h⟩
  | x :: r, s, t, hs, ht, h, hl => by
    by_cases e : (x :: r).length = l
    · exact ⟨x :: r, s, t, hs, ht, e, h⟩
    · have hx := h.wd x (by simp)
      obtain ⟨u, hu, eu⟩ := nat_nxt R hn hs hx.1 hx.2
      obtain ⟨v, hv, ev⟩ := nat_nxt R hn ht hx.1 hx.2
      have hl2 : l ≤ r.length := by simp at hl e; omega
      have hr : Sayd m r := by
        by_cases c : r = []
        · subst c; exact .inr (h0 (by simpa using hl2))
        · exact .inl c
      have h2 := h.tail hr
      rw [eu, ev] at h2
      exact tails R hn h0 r u v hu hv h2 hl2

/-- What holds between two levels: all first words of at most l symbols are found; those of l symbols stand from b on. -/
structure OutI (m : Mc) (n l b : Nat) (ls : Nat → Nat) (M : List (List Int × Nat × Nat)) : Prop where
  sv : Siv m n (fun w => w.length ≤ l) ls M
  b1 : b ≤ M.length
  ln : ∀ j, j < M.length → (wdA M j).length ≤ l ∧ (b ≤ j ↔ (wdA M j).length = l)
  h0 : l = 0 → m.kind = 1
/-- The words that are done at the place (x, i) of a level. -/
def Dl (l b e : Nat) (M : List (List Int × Nat × Nat)) (x i : Nat) (w : List Int) : Prop := w.length ≤ l ∨ ∃ x' j : Nat, (x' < x ∨ x' = x ∧ j < i) ∧ b + j < e ∧ w = (x' : Int) :: wdA M (b + j)
/-- What holds at the place (x, i) of a level. -/
structure LvI (m : Mc) (n k l b e x i : Nat) (ls : Nat → Nat) (M : List (List Int × Nat × Nat)) : Prop where
  sv : Siv m n (Dl l b e M x i) ls M
  be : b ≤ e
  el : e ≤ M.length
  l1 : ∀ j, j < e → (wdA M j).length ≤ l ∧ (b ≤ j ↔ (wdA M j).length = l)
  l2 : ∀ j, e ≤ j → j < M.length → (wdA M j).length = l + 1
  h0 : l = 0 → m.kind = 1
section
variable {m : Mc} {n k l b e x i : Nat} {ls : Nat → Nat} {M : List (List Int × Nat × Nat)}
theorem OutI.done (h : OutI m n l b ls M) (R : Right m) (hn : m.n = (n : Int)) (hb : b = M.length) : Siv m n (fun _ => True) ls M := by
  refine h.sv.congr fun w s t hs ht hi => ⟨fun _ => trivial, fun _ => Classical.byContradiction fun c => ?_⟩
  obtain ⟨v, s', t', hs', ht', hv, hi'⟩ := tails R hn h.h0 w s t hs ht hi (by omega)
  obtain ⟨j, hj, ej⟩ := h.sv.cp v s' t' hs' ht' (by show v.length ≤ l; omega) hi'
  have := (h.ln j hj).2.2 (by show (M.getD j ([], 0, 0)).1.length = l; rw [ej, hv])
  omega
theorem OutI.level (h : OutI m n l b ls M) : LvI m n k l b M.length 0 0 ls M := by
  refine ⟨h.sv.congr fun w s t hs ht hi => ⟨.inl, fun hd => ?_⟩, h.b1, Nat.le_refl _, h.ln, fun j h1 h2 => by omega, h.h0⟩
  rcases hd with hd | ⟨x', j, hx, _⟩
  · exact hd
  · omega
theorem LvI.row (h : LvI m n k l b e x i ls M) (hi : b + i = e) : LvI m n k l b e (x + 1) 0 ls M := by
  refine ⟨h.sv.congr fun w s t hs ht hf => ?_, h.be, h.el, h.l1, h.l2, h.h0⟩
  constructor
  · rintro (hd | ⟨x', j, hx, hj, ew⟩)
    · exact .inl hd
    · exact .inr ⟨x', j, by omega, hj, ew⟩
  · rintro (hd | ⟨x', j, hx, hj, ew⟩)
    · exact .inl hd
    · refine .inr ⟨x', j, ?_, hj, ew⟩
      by_cases c : x' = x
      · exact .inr ⟨c, by omega⟩
      · left; omega
theorem LvI.end (h : LvI m n k l b e k 0 ls M) (R : Right m) (hn : m.n = (n : Int)) (hk : m.k = (k : Int)) : OutI m n (l + 1) e ls M := by
  refine ⟨h.sv.congr fun w s t hs ht hf => ?_, h.el, fun j hj => ?_, fun c => by omega⟩
  · constructor
    · rintro (hd | ⟨x', j, hx, hj, ew⟩)
      · exact Nat.le_succ_of_le hd
      · show w.length ≤ l + 1
        rw [ew, List.length_cons]
        have := (h.l1 (b + j) hj).1
        omega
    · intro hl
      have hl : w.length ≤ l + 1 := hl
      by_cases c : w.length ≤ l
      · exact .inl c
      · cases w with
        | nil => exact .inl (by simp)
        | cons z r =>
          have hz := hf.wd z (by simp)
          obtain ⟨u, hu, eu⟩ := nat_nxt R hn hs hz.1 hz.2
          obtain ⟨v, hv, ev⟩ := nat_nxt R hn ht hz.1 hz.2
          have hrl : r.length = l := by simp at hl c; omega
          have hr : Sayd m r := by
            by_cases c2 : r = []
            · subst c2; exact .inr (h.h0 (by simpa using hrl.symm))
            · exact .inl c2
          have h2 := hf.tail hr
          rw [eu, ev] at h2
          obtain ⟨j, hj, ej⟩ := h.sv.cp r u v hu hv (.inl (by omega)) h2
          have ej : wdA M j = r := ej
          have hje : j < e := Classical.byContradiction fun c3 => by
            have := h.l2 j (by omega) hj
            rw [ej] at this; omega
          have hbj := (h.l1 j hje).2.2 (by rw [ej, hrl])
          obtain ⟨y, rfl⟩ := Int.eq_ofNat_of_zero_le hz.1
          exact .inr ⟨y, j - b, by omega, by omega, by rw [show b + (j - b) = j by omega, ej]⟩
  · by_cases c : j < e
    · have := h.l1 j c
      exact ⟨by omega, ⟨fun h1 => by omega, fun h1 => by omega⟩⟩
    · have := h.l2 j (by omega) hj
      exact ⟨by omega, ⟨fun _ => this, fun _ => by omega⟩⟩
/-- The next word of a level: what is asked of one that is added. -/
theorem LvI.cand (h : LvI m n k l b e x i ls M) (R : Right m) (hn : m.n = (n : Int)) (hk : m.k = (k : Int)) (hx : x < k) (hi : b + i < e) :
    Wrd m.k ((x : Int) :: wdA M (b + i)) ∧ (∀ v (s t : Nat), s < n → t < n → IsF m m s t v → Ahd v ((x : Int) :: wdA M (b + i)) → Dl l b e M x i v) ∧ (∀ v (s t : Nat), s < n → t < n → Dl l b e M x i v → IsF m m s t v → Ahd v ((x : Int) :: wdA M (b + i))) ∧ ¬ Dl l b e M x i ((x : Int) :: wdA M (b + i)) := by
  have hM : b + i < M.length := by have := h.el; omega
  have hlen : (wdA M (b + i)).length = l := (h.l1 (b + i) hi).2.1 (by omega)
  have hmk := h.sv.mks (b + i) hM
  have HL : ∀ x' j : Nat, (x' < x ∨ x' = x ∧ j < i) → b + j < e → Ahd ((x' : Int) :: wdA M (b + j)) ((x : Int) :: wdA M (b + i)) := fun x' j hc hj => by
    have hlj : (wdA M (b + j)).length = l := (h.l1 (b + j) hj).2.1 (by omega)
    refine .inr ⟨by simp [hlen, hlj], ?_⟩
    rcases hc with hc | ⟨hc, hc2⟩
    · exact .inl (by omega)
    · refine .inr ⟨by rw [hc], ?_⟩
      rcases h.sv.srt (b + j) (b + i) (by omega) hM with h1 | ⟨_, h1⟩
      · exfalso
        have e1 : (M.getD (b + j) ([], 0, 0)).1.length = l := hlj
        have e2 : (M.getD (b + i) ([], 0, 0)).1.length = l := hlen
        omega
      · exact h1
  refine ⟨fun y hy => ?_, fun v s t hs ht hf ha => ?_, fun v s t hs ht hd hf => ?_, fun hd => ?_⟩
  · rcases List.mem_cons.1 hy with rfl | hy
    · omega
    · exact hmk.2.isf.wd y hy
  · rcases ha with ha | ⟨ha, hlx⟩
    · left
      rw [List.length_cons, hlen] at ha
      omega
    · rw [List.length_cons, hlen] at ha
      cases v with
      | nil => exact .inl (by simp)
      | cons z r =>
        have hz := hf.wd z (by simp)
        obtain ⟨u, hu, eu⟩ := nat_nxt R hn hs hz.1 hz.2
        obtain ⟨v, hv, ev⟩ := nat_nxt R hn ht hz.1 hz.2
        have hrl : r.length = l := by simp at ha; omega
        have hr : Sayd m r := by
          by_cases c2 : r = []
          · subst c2; exact .inr (h.h0 (by simpa using hrl.symm))
          · exact .inl c2
        have h2 := hf.tail hr
        rw [eu, ev] at h2
        obtain ⟨j, hj, ej⟩ := h.sv.cp r u v hu hv (.inl (by omega)) h2
        have ej : wdA M j = r := ej
        have hje : j < e := Classical.byContradiction fun c3 => by
          have := h.l2 j (by omega) hj
          rw [ej] at this; omega
        have hbj := (h.l1 j hje).2.2 (by rw [ej, hrl])
        obtain ⟨y, rfl⟩ := Int.eq_ofNat_of_zero_le hz.1
        refine .inr ⟨y, j - b, ?_, by omega, by rw [show b + (j - b) = j by omega, ej]⟩
        rcases hlx with hlx | ⟨hlx, hlr⟩
        · left; omega
        · right
          refine ⟨by omega, Classical.byContradiction fun c3 => ?_⟩
          by_cases c4 : j = b + i
          · rw [c4] at ej
            rw [ej] at hlr
            exact Lex.irrefl _ hlr
          · have h5 := h.sv.srt (b + i) j (by omega) hj
            have e1 : (M.getD (b + i) ([], 0, 0)).1 = wdA M (b + i) := rfl
            have e2 : (M.getD j ([], 0, 0)).1 = wdA M j := rfl
            rw [e1, e2, ej] at h5
            exact Ahd.irrefl _ (h5.trans (.inr ⟨by rw [hrl, hlen], hlr⟩))
  · rcases hd with hd | ⟨x', j, hc, hj, ew⟩
    · left; rw [List.length_cons, hlen]; omega
    · rw [ew]; exact HL x' j hc hj
  · rcases hd with hd | ⟨x', j, hc, hj, ew⟩
    · rw [List.length_cons, hlen] at hd; omega
    · have := HL x' j hc hj
      rw [← ew] at this
      exact Ahd.irrefl _ this
theorem Dl_next {N : List (List Int × Nat × Nat)} (he : e ≤ M.length) (hi : b + i < e) (w : List Int) : Dl l b e (M ++ N) x (i + 1) w ↔ orW (Dl l b e M x i) ((x : Int) :: wdA M (b + i)) w := by
  constructor
  · rintro (hd | ⟨x', j, hc, hj, ew⟩)
    · exact .inl (.inl hd)
    · rw [wdA_left (by omega)] at ew
      by_cases c : x' = x ∧ j = i
      · obtain ⟨rfl, rfl⟩ := c; exact .inr ew
      · exact .inl (.inr ⟨x', j, by omega, hj, ew⟩)
  · rintro ((hd | ⟨x', j, hc, hj, ew⟩) | ew)
    · exact .inl hd
    · exact .inr ⟨x', j, by omega, hj, by rw [wdA_left (by omega)]; exact ew⟩
    · exact .inr ⟨x, i, by omega, hi, by rw [wdA_left (by omega)]; exact ew⟩
theorem LvI.next0 (h : LvI m n k l b e x i ls M) (hi : b + i < e) (sv : Siv m n (orW (Dl l b e M x i) ((x : Int) :: wdA M (b + i))) ls M) : LvI m n k l b e x (i + 1) ls M := by
  have hd := fun w => Dl_next (l := l) (b := b) (x := x) (N := []) h.el hi w
  rw [List.append_nil] at hd
  exact ⟨sv.congr fun w _ _ _ _ _ => (hd w).symm, h.be, h.el, h.l1, h.l2, h.h0⟩
theorem LvI.next1 (h : LvI m n k l b e x i ls M) (hi : b + i < e) {ls' : Nat → Nat} {s t : Nat} (sv : Siv m n (orW (Dl l b e M x i) ((x : Int) :: wdA M (b + i))) ls' (M ++ [((x : Int) :: wdA M (b + i), s, t)])) : LvI m n k l b e x (i + 1) ls' (M ++ [((x : Int) :: wdA M (b + i), s, t)]) := by
  have hel := h.el
  refine ⟨sv.congr fun w _ _ _ _ _ => (Dl_next hel hi w).symm, h.be, by simp; omega, fun j hj => ?_, fun j h1 h2 => ?_, h.h0⟩
  · rw [wdA_left (by omega)]; exact h.l1 j hj
  · by_cases c : j < M.length
    · rw [wdA_left c]; exact h.l2 j h1 c
    · have : j = M.length := by simp at h2; omega
      subst this
      unfold wdA
      rw [gd_mid, List.length_cons]
      have := (h.l1 (b + i) hi).2.1 (by omega)
      unfold wdA at this
      omega
/-- How it begins: nothing is done. -/
theorem Siv.start : Siv m n (fun _ => False) (fun _ => 0) [] :=
  ⟨fun s t _ _ => ⟨fun _ w h => absurd h id, fun _ => rfl⟩, fun t _ => ⟨Nat.zero_le _, rfl⟩, fun i hi => by simp at hi, fun w s t _ _ h => absurd h id, fun i j _ hj => by simp at hj⟩
/-- Of a Dfa: the empty word. -/
theorem start1 (hk : m.kind = 1) (h : Siv m n (orW (fun _ => False) []) ls M) (hM : ∀ j, j < M.length → wdA M j = []) : OutI m n 0 0 ls M := by
  refine ⟨h.congr fun w _ _ _ _ _ => ?_, Nat.zero_le _, fun j hj => ?_, fun _ => hk⟩
  · constructor
    · rintro (h | rfl)
      · exact absurd h id
      · exact Nat.le_refl _
    · intro h
      have h : w.length ≤ 0 := h
      exact .inr (List.length_eq_zero_iff.1 (by omega))
  · rw [hM j hj]; simp
theorem cand1 : (∀ v (s t : Nat), s < n → t < n → IsF m m s t v → Ahd v [] → (fun _ : List Int => False) v) ∧ (∀ v (s t : Nat), s < n → t < n → (fun _ : List Int => False) v → IsF m m s t v → Ahd v []) ∧ ¬ (fun _ : List Int => False) [] := by
  refine ⟨fun v s t _ _ _ ha => ?_, fun v s t _ _ hd _ => absurd hd id, id⟩
  rcases ha with ha | ⟨ha, hl⟩
  · simp at ha
  · rw [List.length_eq_zero_iff.1 ha] at hl
    exact Lex.irrefl _ hl
/-- Of a Mealy: the words of one symbol. -/
def Ds (x : Nat) (w : List Int) : Prop := ∃ x' : Nat, x' < x ∧ w = [(x' : Int)]
structure StI (m : Mc) (n x : Nat) (ls : Nat → Nat) (M : List (List Int × Nat × Nat)) : Prop where
  sv : Siv m n (Ds x) ls M
  ln : ∀ j, j < M.length → (wdA M j).length = 1
theorem StI.start : StI m n 0 (fun _ => 0) [] := ⟨Siv.start.congr fun w _ _ _ _ _ => ⟨fun h => absurd h id, fun ⟨x', hx, _⟩ => by omega⟩, fun j hj => by simp at hj⟩
theorem StI.cand (hk : m.kind = 2) : (∀ v (s t : Nat), s < n → t < n → IsF m m s t v → Ahd v [(x : Int)] → Ds x v) ∧ (∀ v (s t : Nat), s < n → t < n → Ds x v → IsF m m s t v → Ahd v [(x : Int)]) ∧ ¬ Ds x [(x : Int)] := by
  refine ⟨fun v s t _ _ hf ha => ?_, fun v s t _ _ hd _ => ?_, fun ⟨x', hx, ew⟩ => ?_⟩
  · rcases ha with ha | ⟨ha, hl⟩
    · have h1 : v.length < 1 := ha
      have : v = [] := List.length_eq_zero_iff.1 (by omega)
      subst this
      have := ((tls_nil rfl).1 hf.tl).1
      omega
    · match v, ha, hl, hf with
      | [z], _, hl, hf =>
        have hz := hf.wd z (by simp)
        obtain ⟨y, rfl⟩ := Int.eq_ofNat_of_zero_le hz.1
        refine ⟨y, ?_, rfl⟩
        rcases hl with hl | ⟨_, hl⟩
        · omega
        · exact absurd hl id
  · obtain ⟨x', hx, rfl⟩ := hd
    exact .inr ⟨rfl, .inl (by omega)⟩
  · have : (x : Int) = (x' : Int) := by simpa using ew
    omega
theorem Ds_next (w : List Int) : Ds (x + 1) w ↔ orW (Ds x) [(x : Int)] w := by
  constructor
  · rintro ⟨x', hx, ew⟩
    by_cases c : x' = x
    · subst c; exact .inr ew
    · exact .inl ⟨x', by omega, ew⟩
  · rintro (⟨x', hx, ew⟩ | ew)
    · exact ⟨x', by omega, ew⟩
    · exact ⟨x, by omega, ew⟩
theorem StI.next0 (h : StI m n x ls M) (sv : Siv m n (orW (Ds x) [(x : Int)]) ls M) : StI m n (x + 1) ls M := ⟨sv.congr fun w _ _ _ _ _ => (Ds_next w).symm, h.ln⟩
theorem StI.next1 (h : StI m n x ls M) {ls' : Nat → Nat} {s t : Nat} (sv : Siv m n (orW (Ds x) [(x : Int)]) ls' (M ++ [([(x : Int)], s, t)])) : StI m n (x + 1) ls' (M ++ [([(x : Int)], s, t)]) := by
  refine ⟨sv.congr fun w _ _ _ _ _ => (Ds_next w).symm, fun j hj => ?_⟩
  by_cases c : j < M.length
  · rw [wdA_left c]; exact h.ln j c
  · have : j = M.length := by simp at hj; omega
    subst this
    unfold wdA
    rw [gd_mid]; rfl
theorem StI.end (h : StI m n k ls M) (hk2 : m.kind = 2) (hk : m.k = (k : Int)) : OutI m n 1 0 ls M := by
  refine ⟨h.sv.congr fun w s t _ _ hf => ?_, Nat.zero_le _, fun j hj => ?_, fun c => by omega⟩
  · constructor
    · rintro ⟨x', _, ew⟩
      show w.length ≤ 1
      rw [ew]; simp
    · intro hl
      have hl : w.length ≤ 1 := hl
      match w, hl, hf with
      | [], _, hf =>
        have := ((tls_nil rfl).1 hf.tl).1
        omega
      | [z], _, hf =>
        have hz := hf.wd z (by simp)
        obtain ⟨y, rfl⟩ := Int.eq_ofNat_of_zero_le hz.1
        exact ⟨y, by omega, rfl⟩
  · rw [h.ln j hj]; simp
end
end Go.Proofs.Ytknefgdcnacfoaa
