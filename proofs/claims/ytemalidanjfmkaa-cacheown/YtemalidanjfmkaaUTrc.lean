/-
  A row of words with notes stands for what a cache keeps. Plain words.
-/
import Derived.Test.YtemalidanjfmkaaUTri
namespace Go.Proofs.Ytemalidanjfmkaa

/-- What is noted of a word. -/
def NtOk (c : Cs) (u : List Int) (kn : Bool) (la : Int) : Prop := kn = (findV c u).isSome ∧ ∀ y, findV c u = some y → (c.kind = 1 → y = [la]) ∧ (c.kind = 2 → u ≠ [] → ∃ z, y = z ++ [la])
/-- What holds of each cache. -/
structure Pcs (c : Cs) : Prop where
  wl : c.ws.length = c.os.length
  kd : c.kind = 1 ∨ c.kind = 2
  ins : ∀ u y, findV c u = some y → u ∈ c.bg
  pre : c.kind = 2 → ∀ u y, findV c u = some y → y.length = u.length ∧ ∀ j, findV c (u.take j) = some (y.take j)
  all : c.kind = 2 → ∀ u, u ∈ c.bg → (findV c u).isSome = true
  room : (c.bg.length : Int) ≤ c.most
  k1 : 1 ≤ c.k
  k2 : c.k ≤ 64
  m1 : c.most ≤ 1048576
structure Ri (c : Cs) (R : List En) : Prop where
  pc : Pcs c
  tr : Tr R c.bg
  nt : ∀ i, i < R.length → NtOk c (wa c.bg i) (ea R i).kn (ea R i).la
/-- The places of a word's beginnings, as far as they stand in the row. -/
structure Pth (bg : List (List Int)) (w : List Int) (P : List Nat) : Prop where
  pos : 0 < P.length
  le : P.length ≤ w.length + 1
  at' : ∀ j, j < P.length → P.getD j 0 < bg.length ∧ wa bg (P.getD j 0) = w.take j
def PthE (bg : List (List Int)) (w : List Int) (P : List Nat) : Prop := Pth bg w P ∧ (P.length ≤ w.length → w.take P.length ∉ bg)
/-- What is made known of the beginning of so many symbols. -/
def nta (kd : Int) (w out : List Int) (i : Nat) : Bool × Int :=
  if kd = 2 then (if i = 0 then (false, 0) else (true, out.getD (i - 1) 0)) else (if i = w.length then (true, out.getD 0 0) else (false, 0))
def clE (e : En) (t : Bool × Int) : Bool := (e.kn && t.1) && !(decide (e.kn = t.1 ∧ e.la = t.2))
theorem clE_iff {e : En} {t : Bool × Int} : clE e t = true ↔ e.kn = true ∧ t.1 = true ∧ e.la ≠ t.2 := by
  unfold clE
  cases e.kn <;> cases t.1 <;> simp
section
variable {c : Cs} {R : List En} {w out : List Int} {P : List Nat}
theorem Pth.start (T : Tr R c.bg) (w : List Int) : Pth c.bg w [0] :=
  ⟨by simp, by simp, fun j hj => by
    obtain rfl : j = 0 := by simpa using hj
    exact ⟨by rw [← T.len]; exact T.pos, by simpa using T.root⟩⟩
theorem gdn_left {P : List Nat} {y j : Nat} (h : j < P.length) : (P ++ [y]).getD j 0 = P.getD j 0 := by
  rw [List.getD_eq_getElem?_getD, List.getD_eq_getElem?_getD, List.getElem?_append_left h]
theorem gdn_new {P : List Nat} {y : Nat} : (P ++ [y]).getD P.length 0 = y := by simp
theorem Pth.snoc {bg : List (List Int)} (h : Pth bg w P) (hl : P.length ≤ w.length) {y : Nat} (hy : y < bg.length) (e : wa bg y = w.take P.length) : Pth bg w (P ++ [y]) := by
  refine ⟨by simp, by simp; omega, fun j hj => ?_⟩
  by_cases d : j < P.length
  · rw [gdn_left d]; exact h.at' j d
  · obtain rfl : j = P.length := by simp at hj; omega
    rw [gdn_new]; exact ⟨hy, e⟩
theorem Pth.mono {bg bg' : List (List Int)} (h : Pth bg w P) (hm : ∀ i, i < bg.length → i < bg'.length ∧ wa bg' i = wa bg i) : Pth bg' w P :=
  ⟨h.pos, h.le, fun j hj => ⟨(hm _ (h.at' j hj).1).1, by rw [(hm _ (h.at' j hj).1).2]; exact (h.at' j hj).2⟩⟩
theorem take_next {w : List Int} {j : Nat} (h : j < w.length) : w.take (j + 1) = w.take j ++ [w.getD j 0] := by
  rw [List.take_succ_eq_append_getElem h]
  simp [List.getD_eq_getElem?_getD, h]
/-- What is kept of w. -/
theorem Ri.find (I : Ri c R) (h : PthE c.bg w P) : (P.length ≤ w.length → findV c w = none) ∧ (w.length < P.length → (ea R (P.getD w.length 0)).kn = (findV c w).isSome) := by
  constructor
  · intro hl
    refine Option.eq_none_iff_forall_not_mem.2 fun y hy => h.2 hl ?_
    exact I.tr.pref (I.pc.ins w y hy) P.length
  · intro hl
    obtain ⟨h1, h2⟩ := h.1.at' w.length hl
    rw [List.take_length] at h2
    have := (I.nt _ (by rw [I.tr.len]; exact h1)).1
    rwa [h2] at this
/-- What is said of w. -/
theorem Ri.said (I : Ri c R) (h : PthE c.bg w P) {y : List Int} (hy : findV c w = some y) : P.length = w.length + 1 ∧ (c.kind = 1 → y = [(ea R (P.getD w.length 0)).la]) ∧ (c.kind = 2 → y = (P.drop 1).map fun i => (ea R i).la) := by
  have hl : w.length < P.length := by
    refine Classical.byContradiction fun hh => ?_
    have := (I.find h).1 (by omega)
    rw [this] at hy; cases hy
  have hle := h.1.le
  refine ⟨by omega, fun k1 => ?_, fun k2 => ?_⟩
  · obtain ⟨h1, h2⟩ := h.1.at' w.length hl
    rw [List.take_length] at h2
    have := (I.nt _ (by rw [I.tr.len]; exact h1)).2 y (by rw [h2]; exact hy)
    exact this.1 k1
  · obtain ⟨h1, h2⟩ := I.pc.pre k2 w y hy
    refine List.ext_getElem? fun i => ?_
    by_cases hi : i < w.length
    · have hi' : i + 1 < P.length := by omega
      obtain ⟨p1, p2⟩ := h.1.at' (i + 1) hi'
      obtain ⟨z, hz⟩ := ((I.nt _ (by rw [I.tr.len]; exact p1)).2 (y.take (i + 1)) (by rw [p2]; exact h2 (i + 1))).2 k2 (by rw [p2]; intro e; have := congrArg List.length e; rw [List.length_take, List.length_nil] at this; omega)
      have hzl : z.length = i := by have := congrArg List.length hz; simp at this; omega
      have e1 : (y.take (i + 1))[i]? = y[i]? := by simp
      rw [← e1, hz, List.getElem?_append_right (by omega), hzl]
      simp only [Nat.sub_self, List.getElem?_cons_zero, List.getElem?_map, List.getElem?_drop]
      rw [Nat.add_comm 1 i, List.getElem?_eq_getElem hi']
      simp [List.getD_eq_getElem?_getD, hi']
    · rw [List.getElem?_eq_none (by omega), List.getElem?_eq_none (by simp; omega)]
theorem Ri.some_pre (I : Ri c R) (k2 : c.kind = 2) {u y : List Int} (h : findV c u = some y) (j : Nat) : findV c (u.take j) = some (y.take j) := (I.pc.pre k2 u y h).2 j
/-- Is otherwise kept? -/
theorem Ri.clash (I : Ri c R) (h : PthE c.bg w P) (hf : chkA ⟨1, w, ⟨c.kind, c.k, c.o, 0, [], []⟩⟩ ⟨1, out, []⟩ = 0) : clsV c w out = true ↔ ∃ i, i < P.length ∧ clE (ea R (P.getD i 0)) (nta c.kind w out i) = true := by
  have hle := h.1.le
  constructor
  · intro hc
    unfold clsV at hc
    rw [List.any_eq_true] at hc
    obtain ⟨i, hi, hi2⟩ := hc
    have hi : i ≤ w.length := by have := List.mem_range.1 hi; omega
    unfold clsA at hi2
    cases hff : findV c (w.take i) with
    | none => rw [hff] at hi2; cases hi2
    | some y =>
      rw [hff] at hi2
      rcases chk_out hf with ⟨k1, ho⟩ | ⟨k2, ho⟩
      · simp [k1] at hi2
        obtain ⟨rfl, hne⟩ := hi2
        rw [List.take_length] at hff
        obtain ⟨s1, s2, -⟩ := I.said h hff
        have hkn := (I.find h).2 (by omega)
        rw [hff] at hkn
        refine ⟨w.length, by omega, clE_iff.2 ⟨by simpa using hkn, by unfold nta; rw [if_neg (by omega), if_pos rfl], fun e => hne ?_⟩⟩
        rw [s2 k1, e]
        unfold nta
        rw [if_neg (by omega), if_pos rfl]
        obtain ⟨o, rfl⟩ := List.length_eq_one_iff.1 ho
        rfl
      · simp [k2] at hi2
        -- the first place where they part
        have hyl := (I.pc.pre k2 _ y hff).1
        have htl : (w.take i).length = i := by simp; omega
        obtain ⟨j, hj, hne⟩ : ∃ j, j < i ∧ y[j]? ≠ out[j]? := by
          refine Classical.byContradiction fun hh => hi2 (List.ext_getElem? fun j => ?_)
          by_cases hj : j < i
          · rw [List.getElem?_take_of_lt hj]
            exact Classical.byContradiction fun hh2 => hh ⟨j, hj, hh2⟩
          · rw [List.getElem?_eq_none (by omega), List.getElem?_eq_none (by simp; omega)]
        have hin : w.take i ∈ c.bg := I.pc.ins _ y hff
        have hiP : i < P.length := by
          refine Classical.byContradiction fun hh => h.2 (by omega) ?_
          have := I.tr.pref hin P.length
          rw [List.take_take, Nat.min_eq_left (by omega)] at this
          exact this
        obtain ⟨p1, p2⟩ := h.1.at' (j + 1) (by omega)
        have hfj : findV c (w.take (j + 1)) = some (y.take (j + 1)) := by
          have := (I.pc.pre k2 _ y hff).2 (j + 1)
          rwa [List.take_take, Nat.min_eq_left (by omega)] at this
        obtain ⟨n1, n2⟩ := I.nt _ (by rw [I.tr.len]; exact p1)
        rw [p2, hfj] at n1
        obtain ⟨z, hz⟩ := (n2 (y.take (j + 1)) (by rw [p2]; exact hfj)).2 k2 (by rw [p2]; intro e; have := congrArg List.length e; rw [List.length_take, List.length_nil] at this; omega)
        have hzl : z.length = j := by have := congrArg List.length hz; simp at this; omega
        refine ⟨j + 1, by omega, clE_iff.2 ⟨by simpa using n1, by unfold nta; rw [if_pos k2, if_neg (by omega)], fun e => hne ?_⟩⟩
        have e1 : (y.take (j + 1))[j]? = y[j]? := by simp
        rw [← e1, hz, List.getElem?_append_right (by omega), hzl, e]
        unfold nta
        rw [if_pos k2, if_neg (by omega)]
        simp [List.getD_eq_getElem?_getD, show j < out.length by omega]
  · rintro ⟨i, hi, hc⟩
    obtain ⟨c1, c2, c3⟩ := clE_iff.1 hc
    obtain ⟨p1, p2⟩ := h.1.at' i hi
    obtain ⟨n1, n2⟩ := I.nt _ (by rw [I.tr.len]; exact p1)
    rw [c1, p2] at n1
    obtain ⟨y, hy⟩ := Option.isSome_iff_exists.1 n1.symm
    unfold clsV
    rw [List.any_eq_true]
    refine ⟨i, List.mem_range.2 (by omega), ?_⟩
    unfold clsA
    rw [hy]
    rcases chk_out hf with ⟨k1, ho⟩ | ⟨k2, ho⟩
    · have hiw : i = w.length := by
        unfold nta at c2
        rw [if_neg (by omega)] at c2
        refine Classical.byContradiction fun hh => ?_
        rw [if_neg hh] at c2; cases c2
      have hya := (n2 y (by rw [p2]; exact hy)).1 k1
      simp [k1, hiw]
      intro e
      apply c3
      unfold nta
      rw [if_neg (by omega), if_pos hiw]
      rw [← e, hya]; rfl
    · have hi0 : i ≠ 0 := by
        unfold nta at c2
        rw [if_pos k2] at c2
        intro e
        rw [if_pos e] at c2; cases c2
      obtain ⟨z, hz⟩ := (n2 y (by rw [p2]; exact hy)).2 k2 (by rw [p2]; intro e; have := congrArg List.length e; rw [List.length_take, List.length_nil] at this; omega)
      have hyl := (I.pc.pre k2 _ y hy).1
      simp [k2]
      intro e
      apply c3
      unfold nta
      rw [if_pos k2, if_neg hi0]
      have hzl : z.length = i - 1 := by have := congrArg List.length hz; simp at this hyl; omega
      have e1 : y[i - 1]? = some (ea R (P.getD i 0)).la := by rw [hz, List.getElem?_append_right (by omega), hzl]; simp
      rw [e, List.getElem?_take_of_lt (by omega)] at e1
      show _ = out.getD (i - 1) 0
      rw [show out.getD (i - 1) 0 = (out[i - 1]?).getD 0 from List.getD_eq_getElem?_getD .., e1]; rfl
end
/-- What is found behind a Put that kept. -/
theorem find_new {c : Cs} {w out : List Int} (hl : c.ws.length = c.os.length) (u : List Int) (bg : List (List Int)) : findV { c with ws := c.ws ++ [w], os := c.os ++ [out], bg := bg } u = (findV c u).orElse fun _ => fndL c.kind u [w] [out] := by
  unfold findV
  show (if c.kind = 2 ∧ u.length = 0 then some [] else fndL c.kind u (c.ws ++ [w]) (c.os ++ [out])) = _
  by_cases h : c.kind = 2 ∧ u.length = 0
  · rw [if_pos h, if_pos h]; rfl
  · rw [if_neg h, if_neg h, fndL_app c.kind u c.ws c.os w out hl]
theorem fndL_one {kd : Int} {u w out : List Int} : fndL kd u [w] [out] = if kd = 1 ∧ w = u then some out else if kd = 2 ∧ begV w u = true then some (out.take u.length) else none := rfl
theorem begV_iff {w u : List Int} : begV w u = true ↔ u.length ≤ w.length ∧ u = w.take u.length := by
  unfold begV; simp; intro _; exact ⟨fun h => h.symm, fun h => h.symm⟩
section
variable {c : Cs} {w out : List Int}
/-- A Mealy's beginnings, behind a Put that kept. -/
theorem find_beg (I : Pcs c) (h : (putV c w out).2 = 0) (k2 : c.kind = 2) {j : Nat} (hj : j ≤ w.length) : findV (putV c w out).1 (w.take j) = some (out.take j) := by
  obtain ⟨e, h1, h2, h3, h4⟩ := put_ok h
  have ho : out.length = w.length := by
    rcases chk_out h2 with ⟨k1, _⟩ | ⟨_, ho⟩
    · omega
    · exact ho
  have hca := cls_no h3 hj
  rw [e, find_new I.wl]
  unfold clsA at hca
  have htl : (w.take j).length = j := by simp; omega
  cases hf : findV c (w.take j) with
  | none =>
    rw [fndL_one, if_neg (by omega), if_pos ⟨k2, by rw [begV_iff, htl]; exact ⟨hj, rfl⟩⟩, htl]; rfl
  | some y =>
    rw [hf] at hca
    simp [k2] at hca
    rw [hca]; rfl
theorem put_bg (h : (putV c w out).2 = 0) : (putV c w out).1.bg = frsV c w := by rw [(put_ok h).1]
theorem Pcs.put (I : Pcs c) (h : (putV c w out).2 = 0) : Pcs (putV c w out).1 := by
  obtain ⟨e, h1, h2, h3, h4⟩ := put_ok h
  have hk : (putV c w out).1.kind = c.kind := by rw [e]
  have fm := frs_mem w (w.length + 1) c.bg
  refine ⟨by rw [e]; simp [I.wl], by rw [hk]; exact I.kd, fun u y hu => ?_, fun k2 u y hu => ?_, fun k2 u hu => ?_, ?_, by rw [e]; exact I.k1, by rw [e]; exact I.k2, by rw [e]; exact I.m1⟩
  · rw [put_bg h]
    unfold frsV
    rw [fm]
    rw [e, find_new I.wl] at hu
    cases hf : findV c u with
    | some z => exact .inl (I.ins u z hf)
    | none =>
      rw [hf] at hu
      change fndL c.kind u [w] [out] = some y at hu
      rw [fndL_one] at hu
      split at hu
      · rename_i hh
        exact .inr ⟨w.length, by omega, by rw [List.take_length]; exact hh.2.symm⟩
      · split at hu
        · rename_i hh
          obtain ⟨b1, b2⟩ := begV_iff.1 hh.2
          exact .inr ⟨u.length, by omega, b2⟩
        · cases hu
  · rw [hk] at k2
    have hu' := hu
    rw [e, find_new I.wl] at hu
    cases hf : findV c u with
    | some z =>
      rw [hf] at hu
      obtain rfl : z = y := Option.some.inj hu
      obtain ⟨q1, q2⟩ := I.pre k2 u z hf
      exact ⟨q1, fun j => find_keep I.wl h (q2 j)⟩
    | none =>
      rw [hf] at hu
      change fndL c.kind u [w] [out] = some y at hu
      rw [fndL_one, if_neg (by omega)] at hu
      split at hu
      · rename_i hh
        obtain ⟨b1, b2⟩ := begV_iff.1 hh.2
        have ho : out.length = w.length := by
          rcases chk_out h2 with ⟨k1, _⟩ | ⟨_, ho⟩
          · omega
          · exact ho
        cases hu
        refine ⟨by simp; omega, fun j => ?_⟩
        rw [b2, List.take_take, List.take_take, List.length_take, Nat.min_eq_left b1]
        exact find_beg I h k2 (by omega)
      · cases hu
  · rw [hk] at k2
    rw [put_bg h] at hu
    unfold frsV at hu
    rw [fm] at hu
    rcases hu with hu | ⟨i, hi, rfl⟩
    · obtain ⟨y, hy⟩ := Option.isSome_iff_exists.1 (I.all k2 u hu)
      rw [find_keep I.wl h hy]; rfl
    · rw [find_beg I h k2 (by omega)]; rfl
  · rw [put_bg h, e]; exact h4
theorem frs_in {bg : List (List Int)} : ∀ (n : Nat), (∀ j, j < n → w.take j ∈ bg) → frs w n bg = bg
  | 0, _ => rfl
  | n + 1, h => by rw [frs, frs_in n (fun j hj => h j (by omega))]; exact if_pos (h n (by omega))
theorem frs_out {bg : List (List Int)} {R : List En} (T : Tr R bg) {P : List Nat} (h : PthE bg w P) {i : Nat} (h1 : P.length ≤ i) (h2 : i ≤ w.length) : w.take i ∉ frs w i bg := by
  rw [frs_mem]
  rintro (h3 | ⟨j, hj, e⟩)
  · have := T.pref h3 P.length
    rw [List.take_take, Nat.min_eq_left h1] at this
    exact h.2 (by omega) this
  · have := congrArg List.length e
    simp at this
    omega
theorem frs_next {bg : List (List Int)} {R : List En} (T : Tr R bg) {P : List Nat} (h : PthE bg w P) {i : Nat} (h1 : P.length ≤ i) (h2 : i ≤ w.length) : frs w (i + 1) bg = frs w i bg ++ [w.take i] := by
  rw [frs]; exact if_neg (frs_out T h h1 h2)
theorem Pth.frs {bg : List (List Int)} {P : List Nat} (h : Pth bg w P) : frs w P.length bg = bg := frs_in _ fun j hj => by
  obtain ⟨p1, p2⟩ := h.at' j hj
  rw [← p2]; exact wa_mem p1
theorem frs_len {bg : List (List Int)} {R : List En} (T : Tr R bg) {P : List Nat} (h : PthE bg w P) : ∀ (n : Nat), P.length + n ≤ w.length + 1 → (frs w (P.length + n) bg).length = bg.length + n
  | 0, _ => by rw [Nat.add_zero, h.1.frs]; rfl
  | n + 1, hn => by rw [← Nat.add_assoc, frs_next T h (by omega) (by omega), List.length_append, frs_len T h n (by omega)]; simp; omega
theorem frsV_len {R : List En} (T : Tr R c.bg) {P : List Nat} (h : PthE c.bg w P) : (frsV c w).length + P.length = c.bg.length + w.length + 1 := by
  have hle := h.1.le
  have := frs_len T h (w.length + 1 - P.length) (by omega)
  rw [show P.length + (w.length + 1 - P.length) = w.length + 1 by omega] at this
  unfold frsV
  rw [this]; omega
/-- A row behind a Put: the words are there; the notes of w's beginnings are set, the others as they were. -/
structure Nts (c : Cs) (R : List En) (w out : List Int) (P : List Nat) (j : Nat) (R' : List En) : Prop where
  tr : Tr R' (frsV c w)
  old : ∀ i, i < R'.length → (∀ t, t < j → P.getD t 0 = i → (nta c.kind w out t).1 = false) → (i < R.length → (ea R' i).kn = (ea R i).kn ∧ (ea R' i).la = (ea R i).la) ∧ (R.length ≤ i → (ea R' i).kn = false)
  new : ∀ t, t < j → (nta c.kind w out t).1 = true → (ea R' (P.getD t 0)).kn = (nta c.kind w out t).1 ∧ (ea R' (P.getD t 0)).la = (nta c.kind w out t).2
theorem Nts.end {R R' : List En} {P : List Nat} (I : Ri c R) (h : (putV c w out).2 = 0) (hp : Pth (frsV c w) w P) (hP : P.length = w.length + 1) (N : Nts c R w out P (w.length + 1) R') : Ri (putV c w out).1 R' := by
  obtain ⟨e, h1, h2, h3, h4⟩ := put_ok h
  have hk : (putV c w out).1.kind = c.kind := by rw [e]
  refine ⟨I.pc.put h, by rw [put_bg h]; exact N.tr, fun i hi => ?_⟩
  rw [put_bg h]
  unfold NtOk
  rw [hk]
  by_cases hh : ∃ t, t < w.length + 1 ∧ P.getD t 0 = i ∧ (nta c.kind w out t).1 = true
  · obtain ⟨t, ht, rfl, hn⟩ := hh
    obtain ⟨n1, n2⟩ := N.new t ht hn
    rw [n1, n2, (hp.at' t (by omega)).2, hn]
    rcases chk_out h2 with ⟨k1, ho⟩ | ⟨k2, ho⟩
    · have htw : t = w.length := by
        unfold nta at hn
        rw [if_neg (by omega)] at hn
        refine Classical.byContradiction fun hh => ?_
        rw [if_neg hh] at hn; cases hn
      subst htw
      rw [List.take_length, find_put I.pc.wl h]
      refine ⟨rfl, fun y hy => ⟨fun _ => ?_, fun k2 => by omega⟩⟩
      cases hy
      unfold nta
      rw [if_neg (by omega), if_pos rfl]
      obtain ⟨o, rfl⟩ := List.length_eq_one_iff.1 ho
      rfl
    · have ht0 : t ≠ 0 := by
        unfold nta at hn
        rw [if_pos k2] at hn
        intro e
        rw [if_pos e] at hn; cases hn
      rw [find_beg I.pc h k2 (by omega)]
      refine ⟨rfl, fun y hy => ⟨fun k1 => by omega, fun _ _ => ?_⟩⟩
      cases hy
      unfold nta
      rw [if_pos k2, if_neg ht0]
      obtain ⟨t, rfl⟩ : ∃ s, t = s + 1 := ⟨t - 1, by omega⟩
      exact ⟨out.take t, by rw [take_next (by omega)]; rfl⟩
  · have hno : ∀ t, t < w.length + 1 → P.getD t 0 = i → (nta c.kind w out t).1 = false := fun t ht hti => by
      cases hb : (nta c.kind w out t).1 with
      | false => rfl
      | true => exact absurd ⟨t, ht, hti, hb⟩ hh
    obtain ⟨o1, o2⟩ := N.old i hi hno
    -- where a beginning of w stands
    have hpl : ∀ t, t ≤ w.length → wa (frsV c w) i = w.take t → P.getD t 0 = i := fun t ht et => by
      obtain ⟨p1, p2⟩ := hp.at' t (by omega)
      exact wa_inj N.tr.nd p1 (by rw [← N.tr.len]; exact hi) (by rw [p2, et])
    have fnew : fndL c.kind (wa (frsV c w) i) [w] [out] = none ∨ (c.kind = 2 ∧ wa (frsV c w) i = []) := by
      rw [fndL_one]
      rcases chk_out h2 with ⟨k1, ho⟩ | ⟨k2, ho⟩
      · left
        rw [if_neg, if_neg (by omega)]
        rintro ⟨-, hw⟩
        have h5 := hno w.length (by omega) (hpl w.length (Nat.le_refl _) (by rw [List.take_length]; exact hw.symm))
        unfold nta at h5
        rw [if_neg (by omega), if_pos rfl] at h5; cases h5
      · rw [if_neg (by omega)]
        by_cases hb : begV w (wa (frsV c w) i) = true
        · right
          obtain ⟨b1, b2⟩ := begV_iff.1 hb
          have h5 := hno (wa (frsV c w) i).length (by omega) (hpl _ b1 b2)
          unfold nta at h5
          rw [if_pos k2] at h5
          refine ⟨k2, Classical.byContradiction fun hne => ?_⟩
          rw [if_neg (by intro e0; exact hne (List.length_eq_zero_iff.1 e0))] at h5
          cases h5
        · left
          rw [if_neg (fun x => hb x.2)]
    have feq : findV (putV c w out).1 (wa (frsV c w) i) = findV c (wa (frsV c w) i) := by
      rcases fnew with fn | ⟨k2, hnil⟩
      · rw [e, find_new I.pc.wl, show (frsV c w) = frsV c w from rfl]
        show (findV c (wa (frsV c w) i)).orElse _ = _
        rw [fn]
        cases findV c (wa (frsV c w) i) <;> rfl
      · rw [hnil]
        unfold findV
        rw [hk, if_pos ⟨k2, rfl⟩, if_pos ⟨k2, rfl⟩]
    rw [feq]
    obtain ⟨g, hg⟩ := frs_pre w (w.length + 1) c.bg
    by_cases hiR : i < R.length
    · obtain ⟨e1, e2⟩ := o1 hiR
      have hwa : wa (frsV c w) i = wa c.bg i := by
        unfold frsV wa
        rw [hg, List.getD_eq_getElem?_getD, List.getD_eq_getElem?_getD, List.getElem?_append_left (by rw [← I.tr.len]; exact hiR)]
      rw [hwa, e1, e2]
      exact I.nt i hiR
    · have hkn := o2 (by omega)
      have hnin : wa (frsV c w) i ∉ c.bg := fun hm => by
        obtain ⟨j, hj, ej⟩ := mem_wa hm
        have hwa : wa (frsV c w) j = wa c.bg j := by
          unfold frsV wa
          rw [hg, List.getD_eq_getElem?_getD, List.getD_eq_getElem?_getD, List.getElem?_append_left hj]
        have hjl : j < (frsV c w).length := by unfold frsV; rw [hg]; simp; omega
        have := wa_inj N.tr.nd hjl (by rw [← N.tr.len]; exact hi) (by rw [hwa, ej])
        have hl := I.tr.len
        omega
      have hfn : findV c (wa (frsV c w) i) = none := Option.eq_none_iff_forall_not_mem.2 fun y hy => hnin (I.pc.ins _ y hy)
      rw [hfn, hkn]
      exact ⟨rfl, fun y hy => by cases hy⟩
end
/-- A fresh one. -/
theorem Pcs.new {kind k o most : Int} (h : newE kind k o most = 0) : Pcs (newV kind k o most) := by
  unfold newE at h
  split at h
  · cases h
  rename_i h1
  split at h
  · cases h
  rename_i h2
  split at h
  · cases h
  rename_i h3
  split at h
  · cases h
  rename_i h4
  have f0 : ∀ u y, findV (newV kind k o most) u = some y → kind = 2 ∧ u = [] ∧ y = [] := fun u y hy => by
    unfold findV newV at hy
    dsimp only at hy
    split at hy
    · rename_i hh; cases hy; exact ⟨hh.1, List.length_eq_zero_iff.1 hh.2, rfl⟩
    · cases hy
  refine ⟨rfl, ?_, fun u y hy => ?_, fun k2 u y hy => ?_, fun k2 u hu => ?_, ?_, ?_, ?_, ?_⟩
  · show kind = 1 ∨ kind = 2
    omega
  · rw [(f0 u y hy).2.1]; simp [newV]
  · obtain ⟨-, rfl, rfl⟩ := f0 u y hy
    refine ⟨rfl, fun j => ?_⟩
    rw [List.take_nil]; exact hy
  · obtain rfl : u = [] := by simpa [newV] using hu
    unfold findV
    rw [if_pos ⟨k2, rfl⟩]; rfl
  · show ((1 : Nat) : Int) ≤ most
    omega
  · show 1 ≤ k
    omega
  · show k ≤ 64
    omega
  · show most ≤ 1048576
    omega
theorem Ri.new {kind k o most : Int} (h : newE kind k o most = 0) : Ri (newV kind k o most) [⟨0, 0, 0, 0, decide (kind = 2), 0⟩] := by
  refine ⟨Pcs.new h, Tr.one _, fun i hi => ?_⟩
  obtain rfl : i = 0 := by simpa using hi
  have e : wa (newV kind k o most).bg 0 = [] := rfl
  rw [e]
  unfold NtOk findV
  show decide (kind = 2) = (if kind = 2 ∧ 0 = 0 then some [] else none : Option (List Int)).isSome ∧ ∀ y, (if kind = 2 ∧ 0 = 0 then some [] else none : Option (List Int)) = some y → _
  by_cases c : kind = 2
  · simp [c, newV]
  · simp [c]
theorem Pcs.count {c : Cs} (I : Pcs c) (h m : Int) : Pcs { c with hits := h, miss := m } := ⟨I.wl, I.kd, I.ins, I.pre, I.all, I.room, I.k1, I.k2, I.m1⟩
theorem Ri.count {c : Cs} {R : List En} (I : Ri c R) (h m : Int) : Ri { c with hits := h, miss := m } R := ⟨I.pc.count h m, I.tr, I.nt⟩

end Go.Proofs.Ytemalidanjfmkaa
