/-
  Some texts of this seat, one behind the other.
-/
import Derived.Test.YtepmdnggiajkbaaK1
import Derived.Test.YtepmdnggiajkbaaK16
import Derived.Test.YtepmdnggiajkbaaK28
import Derived.Test.YtepmdnggiajkbaaK8
import Derived.Test.YtepmdnggiajkbaaUCnV
/-
  A table of rows and columns, in plain words: the document's answer of layer 13.
-/
namespace Go.Proofs.Ytepmdnggiajkbaa
set_option linter.unusedVariables false

/-- What a table holds: what the machine is like, rows, columns, the words and what was said of them. -/
structure Tb where
  kind : Int
  k : Int
  o : Int
  rows : List (List Int)
  cols : List (List Int)
  ws : List (List Int)
  os : List (List Int)
/-- The place of a word in a list. -/
def plcO (l : List (List Int)) (w : List Int) : Option Nat := if w ∈ l then some (l.idxOf w) else none
def plcV (l : List (List Int)) (w : List Int) : Int := match plcO l w with | some i => (i : Int) | none => -1
theorem plc_lt {l : List (List Int)} {w : List Int} {i : Nat} (h : plcO l w = some i) : i < l.length := by
  unfold plcO at h
  split at h
  · rename_i c; injection h with h; subst h; exact List.idxOf_lt_length_of_mem c
  · cases h
theorem plc_at {l : List (List Int)} {w : List Int} {i : Nat} (hi : i < l.length) (h : l[i] = w) (hn : w ∉ l.take i) : plcV l w = (i : Int) := by
  have hm : w ∈ l := h ▸ List.getElem_mem hi
  have he : l.idxOf w = i := by
    have h1 : l.idxOf w ≤ i := by
      rcases Nat.lt_or_ge i (l.idxOf w) with c | c
      · exact absurd h (by
          intro e
          have := List.not_of_lt_findIdx (p := fun x => x == w) (xs := l) (i := i) c
          simp [h] at this)
      · exact c
    rcases Nat.lt_or_ge (l.idxOf w) i with c | c
    · exfalso
      refine hn ?_
      have h2 : l[l.idxOf w]'(List.idxOf_lt_length_of_mem hm) = w := List.getElem_idxOf _
      exact List.mem_take_iff_getElem.2 ⟨l.idxOf w, by have := List.idxOf_lt_length_of_mem hm; omega, h2⟩
    · omega
  unfold plcV plcO
  rw [if_pos hm, he]
theorem plc_no {l : List (List Int)} {w : List Int} (h : w ∉ l) : plcV l w = -1 := by unfold plcV plcO; rw [if_neg h]
/-- A cell; nothing, if it is not known. (P13.3) -/
def celV (t : Tb) (u e : List Int) : List Int := match plcO t.ws (u ++ e) with
  | none => []
  | some i => if t.kind = 2 then (t.os.getD i []).drop ((t.os.getD i []).length - e.length) else t.os.getD i []
/-- Alike by all columns? (P13.5) -/
def alkT (t : Tb) (u v : List Int) : Bool := t.cols.all fun e => decide (celV t u e = celV t v e)
/-- The first row that a word is alike to. -/
def rowO' (t : Tb) (u : List Int) : Option Nat := t.rows.findIdx? fun r => alkT t r u
/-- Rows, then edges. -/
def edgT (t : Tb) : List (List Int) := t.rows.flatMap fun r => (List.range t.k.toNat).map fun x : Nat => r ++ [(x : Int)]
def allT (t : Tb) : List (List Int) := t.rows ++ edgT t
def rowI (t : Tb) (u : List Int) : Int := match rowO' t u with | some i => (i : Int) | none => -1
theorem rowI_at {t : Tb} {u : List Int} {I : Nat} (h : I < t.rows.length) (h1 : alkT t t.rows[I] u = true) (h2 : ∀ j (hj : j < I), alkT t (t.rows[j]'(by omega)) u = false) : rowI t u = (I : Int) := by
  have : rowO' t u = some I := List.findIdx?_eq_some_iff_getElem.2 ⟨h, h1, fun j hj => by rw [h2 j hj]; simp⟩
  unfold rowI; rw [this]
theorem rowI_no {t : Tb} {u : List Int} (h : ∀ j (hj : j < t.rows.length), alkT t t.rows[j] u = false) : rowI t u = -1 := by
  have : rowO' t u = none := List.findIdx?_eq_none_iff.2 fun x hx => by
    obtain ⟨j, hj, rfl⟩ := List.getElem_of_mem hx
    exact h j hj
  unfold rowI; rw [this]

/-- The edges of one row. -/
def edg1 (r : List Int) (x : Nat) : List (List Int) := (List.range x).map fun y : Nat => r ++ [(y : Int)]
theorem edg1_succ (r : List Int) (x : Nat) : edg1 r (x + 1) = edg1 r x ++ [r ++ [(x : Int)]] := by unfold edg1; rw [List.range_succ, List.map_append]; rfl
/-- Of the first rows all edges. -/
def edgN (rs : List (List Int)) (K I : Nat) : List (List Int) := (rs.take I).flatMap fun r => edg1 r K
theorem edgN_succ {rs : List (List Int)} {K I : Nat} (h : I < rs.length) : edgN rs K (I + 1) = edgN rs K I ++ edg1 rs[I] K := by
  unfold edgN
  rw [List.take_succ_eq_append_getElem h, List.flatMap_append]; simp
theorem edgN_len (rs : List (List Int)) (K : Nat) : ∀ I, (edgN rs K I).length ≤ I * K
  | 0 => by simp [edgN]
  | I + 1 => by
    by_cases h : I < rs.length
    · rw [edgN_succ h, List.length_append, Nat.succ_mul]
      have := edgN_len rs K I
      have e : (edg1 rs[I] K).length = K := by simp [edg1]
      omega
    · have h1 : edgN rs K (I + 1) = edgN rs K I := by unfold edgN; rw [List.take_of_length_le (by omega), List.take_of_length_le (by omega)]
      rw [h1, Nat.succ_mul]
      have := edgN_len rs K I
      omega
def ahT (a b : List Int) : Bool := ahdV a.length (fun i => a.getD i 0) b.length (fun i => b.getD i 0)
/-- The least one so far, with one word more. (P13.3) -/
def misS (t : Tb) (acc : Option (List Int)) (w : List Int) : Option (List Int) := if w.length ≤ 4096 ∧ w ∉ t.ws ∧ (acc = none ∨ ahT w (acc.getD []) = true) then some w else acc
def misR (t : Tb) (acc : Option (List Int)) (u : List Int) (cs : List (List Int)) : Option (List Int) := cs.foldl (fun acc e => misS t acc (u ++ e)) acc
def misL (t : Tb) (us : List (List Int)) : Option (List Int) := us.foldl (fun acc u => misR t acc u t.cols) none
def misT (t : Tb) : Option (List Int) := misL t (allT t)
theorem misR_take {t : Tb} {acc : Option (List Int)} {u : List Int} {cs : List (List Int)} {I : Nat} (h : I < cs.length) : misR t acc u (cs.take (I + 1)) = misS t (misR t acc u (cs.take I)) (u ++ cs[I]) := by
  unfold misR; rw [List.take_succ_eq_append_getElem h, List.foldl_append]; rfl
theorem misL_take {t : Tb} {us : List (List Int)} {I : Nat} (h : I < us.length) : misL t (us.take (I + 1)) = misR t (misL t (us.take I)) us[I] t.cols := by
  unfold misL; rw [List.take_succ_eq_append_getElem h, List.foldl_append]; rfl
theorem plc_neg {l : List (List Int)} {w : List Int} : decide (plcV l w < 0) = decide (w ∉ l) := by
  by_cases h : w ∈ l
  · obtain ⟨i, hi, e⟩ : ∃ i : Nat, i < l.length ∧ plcV l w = (i : Int) := ⟨l.idxOf w, List.idxOf_lt_length_of_mem h, by unfold plcV plcO; rw [if_pos h]⟩
    rw [e]; simp [h]
  · rw [plc_no h]; simp [h]
theorem allT_len {t : Tb} {N : Nat} (h : ∀ r ∈ t.rows, r.length ≤ N) : ∀ u ∈ allT t, u.length ≤ N + 1 := by
  intro u hu
  unfold allT edgT at hu
  rcases List.mem_append.1 hu with hu | hu
  · have := h u hu; omega
  · obtain ⟨r, hr, hx⟩ := List.mem_flatMap.1 hu
    obtain ⟨x, -, rfl⟩ := List.mem_map.1 hx
    have := h r hr
    simp; omega
/-- The first edge that is alike to no row. (P13.5) -/
def opnT (t : Tb) : Option (List Int) := if (misT t).isSome = true then none else ((allT t).drop t.rows.length).find? fun u => decide (rowI t u < 0)
theorem find_at {α : Type} {P : α → Bool} {l : List α} {i : Nat} (hi : i < l.length) (h1 : P l[i] = true) (h2 : ∀ j (hj : j < i), P (l[j]'(by omega)) = false) : l.find? P = some l[i] :=
  List.find?_eq_some_iff_getElem.2 ⟨h1, i, hi, rfl, fun j hj => by rw [h2 j hj]; rfl⟩
theorem find_no {α : Type} {P : α → Bool} {l : List α} (h : ∀ j (hj : j < l.length), P l[j] = false) : l.find? P = none :=
  List.find?_eq_none.2 fun x hx => by
    obtain ⟨j, hj, rfl⟩ := List.getElem_of_mem hx
    rw [h j hj]; simp

end Go.Proofs.Ytepmdnggiajkbaa

/-
  Tables in plain words: what is missing; cells that tell what a machine says.
-/
namespace Go.Proofs.Ytepmdnggiajkbaa
set_option linter.unusedVariables false

theorem misS_none {t : Tb} {acc : Option (List Int)} {w : List Int} : misS t acc w = none ↔ acc = none ∧ (w.length ≤ 4096 → w ∈ t.ws) := by
  unfold misS
  constructor
  · intro h
    split at h
    · cases h
    · rename_i c
      refine ⟨h, fun hl => ?_⟩
      by_cases hw : w ∈ t.ws
      · exact hw
      · exact absurd ⟨hl, hw, .inl h⟩ c
  · rintro ⟨h1, h2⟩
    rw [if_neg (fun c => c.2.1 (h2 c.1))]
    exact h1
theorem misR_none {t : Tb} {u : List Int} : ∀ {cs : List (List Int)} {acc : Option (List Int)}, misR t acc u cs = none ↔ acc = none ∧ ∀ e ∈ cs, (u ++ e).length ≤ 4096 → u ++ e ∈ t.ws
  | [], acc => by simp [misR]
  | c :: cs, acc => by
    show misR t (misS t acc (u ++ c)) u cs = none ↔ _
    rw [misR_none, misS_none]
    constructor
    · rintro ⟨⟨h1, h2⟩, h3⟩
      refine ⟨h1, fun e he => ?_⟩
      rcases List.mem_cons.1 he with rfl | he
      · exact h2
      · exact h3 e he
    · rintro ⟨h1, h2⟩
      exact ⟨⟨h1, h2 c (by simp)⟩, fun e he => h2 e (by simp [he])⟩
theorem misF_none {t : Tb} : ∀ {us : List (List Int)} {acc : Option (List Int)}, us.foldl (fun acc u => misR t acc u t.cols) acc = none ↔ acc = none ∧ ∀ u ∈ us, ∀ e ∈ t.cols, (u ++ e).length ≤ 4096 → u ++ e ∈ t.ws
  | [], acc => by simp
  | v :: us, acc => by
    show us.foldl _ (misR t acc v t.cols) = none ↔ _
    rw [misF_none, misR_none]
    constructor
    · rintro ⟨⟨h1, h2⟩, h3⟩
      refine ⟨h1, fun u hu => ?_⟩
      rcases List.mem_cons.1 hu with rfl | hu
      · exact h2
      · exact h3 u hu
    · rintro ⟨h1, h2⟩
      exact ⟨⟨h1, h2 v (by simp)⟩, fun u hu => h2 u (by simp [hu])⟩
/-- Nothing is missing where all cells of short words are known. -/
theorem misT_none {t : Tb} : misT t = none ↔ ∀ u ∈ allT t, ∀ e ∈ t.cols, (u ++ e).length ≤ 4096 → u ++ e ∈ t.ws := by
  unfold misT misL
  rw [misF_none]; simp
theorem misR_some {t : Tb} {u w : List Int} : ∀ {cs : List (List Int)} {acc : Option (List Int)}, misR t acc u cs = some w → acc = some w ∨ ∃ e ∈ cs, w = u ++ e ∧ w.length ≤ 4096 ∧ w ∉ t.ws
  | [], acc, h => .inl h
  | c :: cs, acc, h => by
    have h' : misR t (misS t acc (u ++ c)) u cs = some w := h
    rcases misR_some h' with h1 | ⟨e, he, h2⟩
    · unfold misS at h1
      split at h1
      · rename_i q
        injection h1 with h1
        exact .inr ⟨c, by simp, h1.symm, h1 ▸ q.1, h1 ▸ q.2.1⟩
      · exact .inl h1
    · exact .inr ⟨e, by simp [he], h2⟩
theorem misF_some {t : Tb} {w : List Int} : ∀ {us : List (List Int)} {acc : Option (List Int)}, us.foldl (fun acc u => misR t acc u t.cols) acc = some w → acc = some w ∨ ∃ u ∈ us, ∃ e ∈ t.cols, w = u ++ e ∧ w.length ≤ 4096 ∧ w ∉ t.ws
  | [], acc, h => .inl h
  | v :: us, acc, h => by
    have h' : us.foldl (fun acc u => misR t acc u t.cols) (misR t acc v t.cols) = some w := h
    rcases misF_some h' with h1 | ⟨u, hu, h2⟩
    · rcases misR_some h1 with h3 | h3
      · exact .inl h3
      · exact .inr ⟨v, by simp, h3⟩
    · exact .inr ⟨u, by simp [hu], h2⟩
/-- What is missing is a row or an edge with a column behind it, and not known. -/
theorem misT_some {t : Tb} {w : List Int} (h : misT t = some w) : ∃ u ∈ allT t, ∃ e ∈ t.cols, w = u ++ e ∧ w.length ≤ 4096 ∧ w ∉ t.ws := by
  rcases misF_some (us := allT t) h with h | h
  · cases h
  · exact h

/-- What is known is what m says. -/
structure Tru (m : Mc) (t : Tb) : Prop where
  kd : t.kind = m.kind
  len : t.os.length = t.ws.length
  tells : ∀ i (h : i < t.ws.length) (h' : i < t.os.length), t.os[i] = (goV m 0 t.ws[i] []).2
theorem goV_lenM {m : Mc} (hk : m.kind = 2) : ∀ (w : List Int) (s : Int), (goV m s w []).2.length = w.length
  | [], s => by rw [goV_nil2 (by omega)]
  | x :: w, s => by rw [goV_two hk]; simp [goV_lenM hk w]
theorem plcO_is {l : List (List Int)} {w : List Int} (h : w ∈ l) : ∃ i, plcO l w = some i ∧ ∃ hi : i < l.length, l[i] = w :=
  ⟨l.idxOf w, by unfold plcO; rw [if_pos h], List.idxOf_lt_length_of_mem h, List.getElem_idxOf _⟩
/-- A cell that is known tells what is said behind the row's word. -/
theorem Tru.cel {m : Mc} {t : Tb} (T : Tru m t) (hkd : m.kind = 1 ∨ m.kind = 2) {u e : List Int} (h : u ++ e ∈ t.ws) : celV t u e = (goV m (ends m 0 u) e []).2 := by
  obtain ⟨i, h1, h2, h3⟩ := plcO_is h
  have ho : i < t.os.length := by rw [T.len]; exact h2
  have e1 : t.os.getD i [] = (goV m 0 (u ++ e) []).2 := by
    rw [List.getD_eq_getElem?_getD, List.getElem?_eq_getElem ho]
    show t.os[i] = _
    rw [T.tells i h2 ho, h3]
  unfold celV
  rw [h1]
  show (if t.kind = 2 then (t.os.getD i []).drop ((t.os.getD i []).length - e.length) else t.os.getD i []) = _
  rw [e1, T.kd]
  rcases hkd with hk | hk
  · rw [if_neg (by omega)]
    exact (goV_after 0 u e).1 (by omega)
  · rw [if_pos hk, (goV_after 0 u e).2 hk, List.length_append, goV_lenM hk, goV_lenM hk]
    rw [show u.length + e.length - e.length = u.length by omega]
    exact List.drop_left' (goV_lenM hk u 0)
/-- Two that are alike by their columns say the same of these. -/
theorem Tru.alk {m : Mc} {t : Tb} (T : Tru m t) (hkd : m.kind = 1 ∨ m.kind = 2) {u v : List Int} (hu : ∀ e ∈ t.cols, u ++ e ∈ t.ws) (hv : ∀ e ∈ t.cols, v ++ e ∈ t.ws) :
    alkT t u v = true ↔ ∀ e ∈ t.cols, (goV m (ends m 0 u) e []).2 = (goV m (ends m 0 v) e []).2 := by
  unfold alkT
  rw [List.all_eq_true]
  constructor
  · intro h e he
    have := of_decide_eq_true (h e he)
    rwa [T.cel hkd (hu e he), T.cel hkd (hv e he)] at this
  · intro h e he
    exact decide_eq_true (by rw [T.cel hkd (hu e he), T.cel hkd (hv e he)]; exact h e he)

end Go.Proofs.Ytepmdnggiajkbaa

/-
  Tables in plain words: rows that are told apart are no more than the least machine has states.
-/
namespace Go.Proofs.Ytepmdnggiajkbaa
set_option linter.unusedVariables false

theorem rows_few {m : Mc} (F : Full m) {us : List (List Int)} (hw : ∀ u ∈ us, Wrd m.k u)
    (hap : us.Pairwise fun u v => ∃ e, Wrd m.k e ∧ (goV m (ends m 0 u) e []).2 ≠ (goV m (ends m 0 v) e []).2) : (us.length : Int) ≤ (minM m).n := by
  have hkd : (minM m).kind = m.kind := rfl
  have hk : (minM m).k = m.k := rfl
  have hS := same_min F
  have F2 := full_min F
  have n0 := F2.r.n0
  have h1 : (us.map fun u => ends (minM m) 0 u).Nodup := by
    unfold List.Nodup
    rw [List.pairwise_map]
    refine List.Pairwise.imp_of_mem (fun {u v} hu hv h => ?_) hap
    obtain ⟨e, he, hne⟩ := h
    intro heq
    refine hne ?_
    have a := same_behind hkd hS (hw u hu) e he
    have b := same_behind hkd hS (hw v hv) e he
    rw [a, b, heq]
  have h2 : ∀ a ∈ us.map (fun u => ends (minM m) 0 u), 0 ≤ a ∧ a < ((minM m).n.toNat : Int) := fun a ha => by
    obtain ⟨u, hu, rfl⟩ := List.mem_map.1 ha
    have := ends_range F2.r u (s := 0) (Int.le_refl 0) (by omega) (fun x hx => by rw [hk]; exact hw u hu x hx)
    omega
  have h3 := nodup_le (minM m).n.toNat _ h1 h2
  rw [List.length_map] at h3
  omega
/-- The same of a table whose rows are pairwise unalike, and all of whose cells are known. -/
theorem Tru.few {m : Mc} {t : Tb} (T : Tru m t) (F : Full m) (hkd : m.kind = 1 ∨ m.kind = 2) (hr : ∀ u ∈ t.rows, Wrd m.k u) (hc : ∀ e ∈ t.cols, Wrd m.k e) (hf : ∀ u ∈ t.rows, ∀ e ∈ t.cols, u ++ e ∈ t.ws)
    (hap : t.rows.Pairwise fun u v => alkT t u v = false) : (t.rows.length : Int) ≤ (minM m).n := by
  refine rows_few F hr (List.Pairwise.imp_of_mem (fun {u v} hu hv h => ?_) hap)
  apply Classical.byContradiction
  intro hno
  have : alkT t u v = true := (T.alk hkd (hf u hu) (hf v hv)).2 fun e he => Classical.byContradiction fun hne => hno ⟨e, hc e he, hne⟩
  rw [this] at h
  cases h
/-- An open edge, taken as a row, is alike to none of the rows before. -/
theorem rowI_neg {t : Tb} {u : List Int} (h : rowI t u < 0) : ∀ r ∈ t.rows, alkT t r u = false := by
  intro r hr
  cases hq : rowO' t u with
  | none =>
    have := List.findIdx?_eq_none_iff.1 hq r hr
    simpa using this
  | some i =>
    unfold rowI at h
    rw [hq] at h
    exfalso
    have h' : ((i : Nat) : Int) < 0 := h
    omega
theorem opnT_some {t : Tb} {u : List Int} (h : opnT t = some u) : misT t = none ∧ u ∈ edgT t ∧ ∀ r ∈ t.rows, alkT t r u = false := by
  unfold opnT at h
  split at h
  · cases h
  · rename_i c
    have hm : misT t = none := by cases hq : misT t with
      | none => rfl
      | some x => rw [hq] at c; exact absurd rfl c
    have h1 := List.mem_of_find?_eq_some h
    have h2 := List.find?_some h
    refine ⟨hm, ?_, rowI_neg (of_decide_eq_true h2)⟩
    unfold allT at h1
    rwa [List.drop_left] at h1

end Go.Proofs.Ytepmdnggiajkbaa

/-
  Tables in plain words: the machine of the rows, ahead of Canon.
-/
namespace Go.Proofs.Ytepmdnggiajkbaa
set_option linter.unusedVariables false

theorem fm_getG {α β : Type} {enc : α → List β} {k : Nat} (hk : ∀ x, (enc x).length = k) (d : α) : ∀ (L : List α) (s i : Nat), s < L.length → i < k → (L.flatMap enc)[s * k + i]? = (enc (L.getD s d))[i]?
  | [], s, i, hs, _ => by simp at hs
  | x :: L, 0, i, _, hi => by
    rw [List.flatMap_cons, Nat.zero_mul, Nat.zero_add, List.getElem?_append_left (by rw [hk]; exact hi)]; rfl
  | x :: L, s + 1, i, hs, hi => by
    have e : (s + 1) * k + i = k + (s * k + i) := by rw [Nat.add_mul]; omega
    rw [List.flatMap_cons, e, List.getElem?_append_right (by rw [hk]; omega), hk, Nat.add_sub_cancel_left, fm_getG hk d L s i (by simpa using hs) hi]
    rfl
/-- Where a row leads by each symbol. -/
def hyN (t : Tb) (K : Nat) (r : List Int) : List Int := (List.range K).map fun x : Nat => rowI t (r ++ [(x : Int)])
def hyO (t : Tb) (K : Nat) (r : List Int) : List Int := if t.kind = 1 then celV t r [] else (List.range K).flatMap fun x : Nat => celV t r [(x : Int)]
/-- The machine whose states are the rows. (P13.6) -/
def hypM (t : Tb) : Mc := { kind := t.kind, k := t.k, o := t.o, n := (t.rows.length : Int), nx := t.rows.flatMap (hyN t t.k.toNat), out := t.rows.flatMap (hyO t t.k.toNat) }
theorem hyp_nx {t : Tb} {K i x : Nat} (hk : t.k = (K : Int)) (hi : i < t.rows.length) (hx : x < K) : nxt (hypM t) (i : Int) (x : Int) = rowI t (t.rows[i] ++ [(x : Int)]) := by
  have hK : t.k.toNat = K := by omega
  have e : ((i : Int) * (hypM t).k + (x : Int)).toNat = i * K + x := by
    show ((i : Int) * t.k + (x : Int)).toNat = _
    rw [hk, ← Int.natCast_mul]; omega
  unfold nxt
  rw [e]
  show (t.rows.flatMap (hyN t t.k.toNat)).getD (i * K + x) 0 = _
  rw [hK, List.getD_eq_getElem?_getD]
  have hl : ∀ r, (hyN t K r).length = K := fun r => by simp [hyN]
  rw [fm_getG hl ([] : List Int) t.rows i x hi hx]
  rw [show t.rows.getD i [] = t.rows[i] by rw [List.getD_eq_getElem?_getD, List.getElem?_eq_getElem hi]; rfl]
  simp [hyN, hx]

theorem alkT_refl (t : Tb) (u : List Int) : alkT t u u = true := by unfold alkT; simp
/-- A row of those that are pairwise unalike is alike to itself alone. -/
theorem rowI_own {t : Tb} (hap : t.rows.Pairwise fun u v => alkT t u v = false) {i : Nat} (hi : i < t.rows.length) : rowI t t.rows[i] = (i : Int) :=
  rowI_at hi (alkT_refl t _) fun j hj => List.pairwise_iff_getElem.1 hap j i (by omega) hi hj
/-- The machine of rows that are pairwise unalike leads by each row to that row. -/
theorem hyp_row {t : Tb} {K : Nat} (hk : t.k = (K : Int)) (hap : t.rows.Pairwise fun u v => alkT t u v = false) (h0 : 0 < t.rows.length) (hz : t.rows[0] = [])
    (hpre : ∀ i (hi : i < t.rows.length), t.rows[i] = [] ∨ ∃ j, ∃ hj : j < t.rows.length, ∃ x, x < K ∧ t.rows[i] = t.rows[j] ++ [((x : Nat) : Int)]) :
    ∀ (n i : Nat) (hi : i < t.rows.length), t.rows[i].length = n → ends (hypM t) 0 t.rows[i] = (i : Int) := by
  intro n
  induction n with
  | zero =>
    intro i hi hl
    have he : t.rows[i] = [] := List.eq_nil_of_length_eq_zero hl
    have : i = 0 := by
      rcases Nat.eq_zero_or_pos i with c | c
      · exact c
      · have := List.pairwise_iff_getElem.1 hap 0 i h0 hi c
        rw [hz, he, alkT_refl] at this
        cases this
    subst this
    rw [he]; rfl
  | succ n ih =>
    intro i hi hl
    rcases hpre i hi with h | ⟨j, hj, x, hx, h⟩
    · rw [h] at hl; simp at hl
    · have hlj : t.rows[j].length = n := by rw [h] at hl; simpa using hl
      have e := ih j hj hlj
      have own := rowI_own hap hi
      rw [h] at own ⊢
      rw [ends_app, e]
      show nxt (hypM t) (j : Int) (x : Int) = (i : Int)
      rw [hyp_nx hk hj hx]
      exact own

end Go.Proofs.Ytepmdnggiajkbaa

/-
  Tables in plain words: Torn; New, AddRow, AddCol, Put.
-/
namespace Go.Proofs.Ytepmdnggiajkbaa
set_option linter.unusedVariables false

/-- The first that is told. -/
def fs {α : Type} (f : Nat → Option α) : Nat → Option α
  | 0 => none
  | n + 1 => match fs f n with
    | some v => some v
    | none => f n
theorem fs_none {α : Type} {f : Nat → Option α} : ∀ {n : Nat}, (∀ i, i < n → f i = none) → fs f n = none
  | 0, _ => rfl
  | n + 1, h => by
    rw [fs, fs_none fun i hi => h i (by omega)]
    exact h n (by omega)
theorem fs_at {α : Type} {f : Nat → Option α} {i : Nat} {v : α} : ∀ {n : Nat}, i < n → (∀ j, j < i → f j = none) → f i = some v → fs f n = some v
  | 0, h, _, _ => by omega
  | n + 1, h, h1, h2 => by
    rw [fs]
    by_cases e : i = n
    · subst e
      rw [fs_none h1]; exact h2
    · rw [fs_at (by omega) h1 h2]
theorem fs_some {α : Type} {f : Nat → Option α} {v : α} : ∀ {n : Nat}, fs f n = some v → ∃ i, i < n ∧ f i = some v ∧ ∀ j, j < i → f j = none
  | 0, h => by cases h
  | n + 1, h => by
    rw [fs] at h
    cases q : fs f n with
    | some u =>
      rw [q] at h
      cases h
      obtain ⟨i, h1, h2, h3⟩ := fs_some q
      exact ⟨i, by omega, h2, h3⟩
    | none =>
      rw [q] at h
      exact ⟨n, by omega, h, fun j hj => by
        cases e : f j with
        | none => rfl
        | some u =>
          exfalso
          have : ∀ m, j < m → fs f m ≠ none := by
            intro m
            induction m with
            | zero => intro h; omega
            | succ m ih =>
              intro hm hn
              rw [fs] at hn
              by_cases c : j = m
              · subst c
                cases r : fs f j with
                | some _ => rw [r] at hn; cases hn
                | none => rw [r] at hn; rw [e] at hn; cases hn
              · cases r : fs f m with
                | some _ => rw [r] at hn; cases hn
                | none => exact ih (by omega) r
          exact this n hj q⟩
theorem fs_congr {α : Type} {f g : Nat → Option α} : ∀ {n : Nat}, (∀ i, i < n → f i = g i) → fs f n = fs g n
  | 0, _ => rfl
  | n + 1, h => by rw [fs, fs, fs_congr fun i hi => h i (by omega), h n (by omega)]
theorem fs_none' {α : Type} {f : Nat → Option α} {n : Nat} (h : fs f n = none) : ∀ i, i < n → f i = none := fun i hi => by
  cases e : f i with
  | none => rfl
  | some u =>
    exfalso
    have : ∀ m, i < m → fs f m ≠ none := by
      intro m
      induction m with
      | zero => intro h; omega
      | succ m ih =>
        intro hm hn
        rw [fs] at hn
        by_cases c : i = m
        · subst c
          cases r : fs f i with
          | some _ => rw [r] at hn; cases hn
          | none => rw [r] at hn; rw [e] at hn; cases hn
        · cases r : fs f m with
          | some _ => rw [r] at hn; cases hn
          | none => exact ih (by omega) r
    exact this n hi h
def Tb.rw (t : Tb) (i : Nat) : List Int := t.rows.getD i []
def Tb.co (t : Tb) (i : Nat) : List Int := t.cols.getD i []
theorem Tb.rw_at {t : Tb} {i : Nat} (h : i < t.rows.length) : t.rw i = t.rows[i] := by unfold Tb.rw; rw [List.getD_eq_getElem?_getD, List.getElem?_eq_getElem h]; rfl
theorem Tb.co_at {t : Tb} {i : Nat} (h : i < t.cols.length) : t.co i = t.cols[i] := by unfold Tb.co; rw [List.getD_eq_getElem?_getD, List.getElem?_eq_getElem h]; rfl
/-- The first column by which two rows' edges by x differ. (P13.5) -/
def trnK (t : Tb) (u v : List Int) (x : Nat) (k : Nat) : Option (List Int) := if celV t (u ++ [(x : Int)]) (t.co k) = celV t (v ++ [(x : Int)]) (t.co k) then none else some ((x : Int) :: t.co k)
def trnX (t : Tb) (u v : List Int) (x : Nat) : Option (List Int) := fs (trnK t u v x) t.cols.length
def trnP (t : Tb) (u v : List Int) : Option (List Int) := fs (trnX t u v) t.k.toNat
def trnD (t : Tb) (i d : Nat) : Option (List Int) := if alkT t (t.rw i) (t.rw (i + 1 + d)) = true then trnP t (t.rw i) (t.rw (i + 1 + d)) else none
def trnJ (t : Tb) (i : Nat) : Option (List Int) := fs (trnD t i) (t.rows.length - (i + 1))
def trnT (t : Tb) : Option (List Int) := if (misT t).isSome = true then none else fs (trnJ t) t.rows.length
theorem alkT_iff {t : Tb} {u v : List Int} : alkT t u v = true ↔ ∀ k, k < t.cols.length → celV t u (t.co k) = celV t v (t.co k) := by
  unfold alkT
  rw [List.all_eq_true]
  constructor
  · intro h k hk
    rw [Tb.co_at hk]
    exact of_decide_eq_true (h _ (List.getElem_mem hk))
  · intro h e he
    obtain ⟨k, hk, rfl⟩ := List.getElem_of_mem he
    exact decide_eq_true (by rw [← Tb.co_at hk]; exact h k hk)
/-- New. (P13.1) -/
def tnE (kind k o : Int) : Int := if kind ≠ 1 ∧ kind ≠ 2 then 30 else if k < 1 ∨ 64 < k then 1 else if (kind = 1 ∧ o ≠ 2) ∨ o < 1 ∨ 64 < o then 33 else 0
def tnC (kind k : Int) : List (List Int) := if kind = 1 then [[]] else (List.range k.toNat).map fun x : Nat => [(x : Int)]
def tnV (kind k o : Int) : Tb := ⟨kind, k, o, [[]], tnC kind k, [], []⟩
/-- AddRow, AddCol. (P13.2) -/
def adR (t : Tb) (w : List Int) : Tb × Int :=
  if wdE w t.k ≠ 0 then (t, wdE w t.k)
  else if w.length = 0 ∨ w.take (w.length - 1) ∉ t.rows then (t, 1)
  else if w ∈ t.rows then (t, 0)
  else if t.rows.length = 1024 then (t, 3)
  else ({ t with rows := t.rows ++ [w] }, 0)
def adC (t : Tb) (w : List Int) : Tb × Int :=
  if wdE w t.k ≠ 0 then (t, wdE w t.k)
  else if w.length = 0 ∧ t.kind = 2 then (t, 1)
  else if w ∈ t.cols then (t, 0)
  else if t.cols.length = 1024 then (t, 3)
  else ({ t with cols := t.cols ++ [w] }, 0)
/-- Put. (P13.4) -/
def ptA (t : Tb) (w out : List Int) : Int := chkA ⟨1, w, ⟨t.kind, t.k, t.o, 0, [], []⟩⟩ ⟨1, out, []⟩
def ptT (t : Tb) (w out : List Int) : Tb × Int :=
  if wdE w t.k ≠ 0 then (t, wdE w t.k)
  else if ptA t w out ≠ 0 then (t, ptA t w out)
  else match plcO t.ws w with
    | some i => if t.os.getD i [] = out then (t, 0) else (t, 111)
    | none => ({ t with ws := t.ws ++ [w], os := t.os ++ [out] }, 0)
/-- Hypo. (P13.6) -/
def hyT (t : Tb) : Mc × Int := if (misT t).isSome = true ∨ (opnT t).isSome = true ∨ (trnT t).isSome = true then (mc0, 7) else cnV (hypM t)

end Go.Proofs.Ytepmdnggiajkbaa
