/-
  Slices of slices of ints: how they read, families of lists in memory of their own, append, make and stores.
-/
import Derived.Test.YtdlcbjbcehpooaaOwn
namespace Go.Proofs.Ytdlcbjbcehpooaa
open Go.RowKit

theorem infoInts : (Try.prog.info? 22).map (fun i => (i.zero, i.size, i.bytes)) = some (some (.slice none 0 0), 1, 24) := by kernel_rfl

/-- The slice of slices at the address a, with n elements, reads in w as the values vs 0, .., vs (n - 1). -/
def RdV (w : World) (a : Option Addr) (n : Nat) (vs : Nat → Value) : Prop :=
  n = 0 ∨ ∃ b off, a = some ⟨b, off, none⟩ ∧ ∀ i, i < n → w.cell? ⟨b, off + i, none⟩ = some (vs i)
theorem RdV.at {w : World} {a : Option Addr} {n : Nat} {vs : Nat → Value} (h : RdV w a n vs) {i : Nat} (hi : i < n) :
    ∃ b off, a = some ⟨b, off, none⟩ ∧ ∀ j, j < n → w.cell? ⟨b, off + j, none⟩ = some (vs j) := by
  rcases h with h | h
  · omega
  · exact h
theorem RdV.below {w w' : World} {a : Option Addr} {n : Nat} {vs : Nat → Value} (h : RdV w a n vs) (hb : Below w.heap.size w w') : RdV w' a n vs := by
  rcases h with h | ⟨b, off, rfl, hc⟩
  · exact .inl h
  · refine .inr ⟨b, off, rfl, fun i hi => ?_⟩
    have := World.block_lt_of_cell? w _ (hc i hi)
    rw [hb.cell (by exact this)]
    exact hc i hi

def cellsV (n : Nat) (vs : Nat → Value) : List Value := (List.range n).map vs
theorem length_cellsV (n : Nat) (vs : Nat → Value) : (cellsV n vs).length = n := by simp [cellsV]
theorem cellsV_get {n : Nat} {vs : Nat → Value} {i : Nat} (h : i < n) : (cellsV n vs)[i]? = some (vs i) := by simp [cellsV, h]
theorem cellsV_congr {n : Nat} {vs us : Nat → Value} (h : ∀ i, i < n → vs i = us i) : cellsV n vs = cellsV n us := by
  unfold cellsV; apply List.map_congr_left; intro i hi; rw [h i (by simpa using hi)]
theorem cellsV_one {n : Nat} {vs : Nat → Value} (h : ∀ i, i < n → ∃ a m c, vs i = .slice a m c) : ∀ u ∈ cellsV n vs, u.oneCell' = true := by
  intro u hu; simp [cellsV] at hu; obtain ⟨i, hi, rfl⟩ := hu; obtain ⟨a, m, c, e⟩ := h i hi; rw [e]; rfl
def joinV (n : Nat) (vs us : Nat → Value) (i : Nat) : Value := if i < n then vs i else us (i - n)
theorem joinV_lt {n i : Nat} {f g : Nat → Value} (h : i < n) : joinV n f g i = f i := by unfold joinV; rw [if_pos h]
theorem joinV_ge {n i : Nat} {f g : Nat → Value} (h : n ≤ i) : joinV n f g i = g (i - n) := by unfold joinV; rw [if_neg (by omega)]
theorem cellsV_join (n m : Nat) (f g : Nat → Value) : cellsV n f ++ cellsV m g = cellsV (n + m) (joinV n f g) := by
  refine List.ext_getElem? fun i => ?_
  by_cases h : i < n
  · rw [List.getElem?_append_left (by rw [length_cellsV]; exact h), cellsV_get h, cellsV_get (by omega), joinV_lt h]
  · rw [List.getElem?_append_right (by rw [length_cellsV]; omega), length_cellsV]
    by_cases h2 : i < n + m
    · rw [cellsV_get (by omega), cellsV_get h2, joinV_ge (by omega)]
    · rw [List.getElem?_eq_none (by rw [length_cellsV]; omega), List.getElem?_eq_none (by rw [length_cellsV]; omega)]

/-- A slice of slices in memory of the call's own. -/
def OwnV (w : World) (B : Nat) (v : Value) (n : Nat) (vs : Nat → Value) : Prop := w.ownsRow B 22 1 v n (cellsV n vs)
theorem OwnV.nil (w : World) (B : Nat) (vs : Nat → Value) : OwnV w B (.slice none 0 0) 0 vs := World.ownsRow_nil _ _ _ _
theorem OwnV.congr {w : World} {B n : Nat} {v : Value} {f g : Nat → Value} (h : OwnV w B v n f) (e : ∀ i, i < n → f i = g i) : OwnV w B v n g := by
  unfold OwnV; rw [← cellsV_congr e]; exact h
theorem OwnV.alloc {w : World} {B n : Nat} {v : Value} {f : Nat → Value} (h : OwnV w B v n f) (o : Obj) : OwnV (w.alloc o) B v n f := World.ownsRow.alloc h o
theorem OwnV.lt {w : World} {B n : Nat} {v : Value} {f : Nat → Value} (h : OwnV w B v n f) {b : Nat} (hb : v.ownBlock = some b) : B ≤ b ∧ b < w.heap.size := World.ownsRow.lt h b hb
theorem Own.lt {w : World} {B n : Nat} {v : Value} {f : Nat → Int} (h : Own w B v n f) {b : Nat} (hb : v.ownBlock = some b) : B ≤ b ∧ b < w.heap.size := World.ownsRow.lt h b hb

theorem ownsRow_keep {w w' : World} {B e n : Nat} {v : Value} {xs : List Value} (h : w.ownsRow B e 1 v n xs) (k : ∀ b, v.ownBlock = some b → w'.heap[b]? = w.heap[b]?) : w'.ownsRow B e 1 v n xs := by
  obtain ⟨h1, h2⟩ := h
  refine ⟨h1, ?_⟩
  rcases h2 with h2 | ⟨g, cap, cur, rfl, hg, hcell, rest⟩
  · exact .inl h2
  · exact .inr ⟨g, cap, cur, rfl, hg, by rw [k g rfl]; exact hcell, rest⟩
theorem Own.keep {w w' : World} {B n : Nat} {v : Value} {f : Nat → Int} (h : Own w B v n f) (k : ∀ b, v.ownBlock = some b → w'.heap[b]? = w.heap[b]?) : Own w' B v n f := ownsRow_keep h k
theorem OwnV.keep {w w' : World} {B n : Nat} {v : Value} {f : Nat → Value} (h : OwnV w B v n f) (k : ∀ b, v.ownBlock = some b → w'.heap[b]? = w.heap[b]?) : OwnV w' B v n f := ownsRow_keep h k
theorem Own.below {w w' : World} {B n : Nat} {v : Value} {f : Nat → Int} (h : Own w B v n f) (hb : Below w.heap.size w w') : Own w' B v n f := h.keep fun b e => hb.block b (h.lt e).2
theorem OwnV.below {w w' : World} {B n : Nat} {v : Value} {f : Nat → Value} (h : OwnV w B v n f) (hb : Below w.heap.size w w') : OwnV w' B v n f := h.keep fun b e => hb.block b (h.lt e).2
theorem ownsRow_base {w : World} {B B' e n : Nat} {v : Value} {xs : List Value} (h : w.ownsRow B e 1 v n xs) (hB : B' ≤ B) : w.ownsRow B' e 1 v n xs := by
  obtain ⟨h1, h2⟩ := h
  refine ⟨h1, ?_⟩
  rcases h2 with h2 | ⟨g, cap, cur, rfl, hg, rest⟩
  · exact .inl h2
  · exact .inr ⟨g, cap, cur, rfl, by omega, rest⟩
theorem Own.base {w : World} {B B' n : Nat} {v : Value} {f : Nat → Int} (h : Own w B v n f) (hB : B' ≤ B) : Own w B' v n f := ownsRow_base h hB
theorem OwnV.base {w : World} {B B' n : Nat} {v : Value} {f : Nat → Value} (h : OwnV w B v n f) (hB : B' ≤ B) : OwnV w B' v n f := ownsRow_base h hB

theorem OwnV.shape {w : World} {B n : Nat} {v : Value} {f : Nat → Value} (h : OwnV w B v n f) :
    ∃ a c, v = .slice a n c ∧ (a = none → n = 0 ∧ c = 0) ∧ n ≤ c ∧ RdV w a n f := by
  obtain ⟨h1, h2⟩ := id h
  rcases h2 with ⟨rfl, rfl⟩ | ⟨g, cap, cur, rfl, hg, hcell, hnc, hm, hs, ht⟩
  · exact ⟨none, 0, rfl, fun _ => ⟨rfl, rfl⟩, Nat.le_refl _, .inl rfl⟩
  · refine ⟨_, _, rfl, (fun h => by cases h), hnc, .inr ⟨g, 0, rfl, fun i hi => ?_⟩⟩
    have := World.ownsRow.cellAt h i (by omega)
    rw [cellsV_get hi] at this
    simpa using this
theorem OwnV.pos {w : World} {B n : Nat} {v : Value} {f : Nat → Value} (h : OwnV w B v n f) (hn : 0 < n) :
    ∃ g cap, v = .slice (some ⟨g, 0, none⟩) n cap ∧ n ≤ cap ∧ cap ≤ maxLen ∧ B ≤ g ∧ g < w.heap.size ∧ (∀ i, i < n → w.cell? ⟨g, i, none⟩ = some (f i)) ∧ (∀ i, w.frozen? ⟨g, i, none⟩ = false) := by
  have hlt := World.ownsRow.lt h
  obtain ⟨h1, h2⟩ := id h
  rcases h2 with ⟨rfl, rfl⟩ | ⟨g, cap, cur, rfl, hg, hcell, hnc, hm, hs, ht⟩
  · omega
  · refine ⟨g, cap, rfl, hnc, hm, hg, (hlt g rfl).2, fun i hi => ?_, fun i => World.ownsRow.frozenAt h i⟩
    have := World.ownsRow.cellAt h i (by omega)
    rw [cellsV_get hi] at this
    exact this

theorem RdV.lit (w : World) (n : Nat) (vs : Nat → Value) (cs : Array Value) (hm : n ≤ maxLen) (hc : cs.toList = cellsV n vs) :
    RdV (w.alloc (.cells cs 22)) (some ⟨w.heap.size, 0, none⟩) n vs := by
  have hs : cs.size = n := by rw [← Array.length_toList, hc, length_cellsV]
  have h : OwnV (w.alloc (.cells cs 22)) w.heap.size (.slice (some ⟨w.heap.size, 0, none⟩) n n) n vs := by
    unfold OwnV; rw [← hc]; exact World.ownsRow_lit w cs n (Nat.le_refl _) hm (by omega)
  obtain ⟨a, c, e, _, _, hx⟩ := h.shape
  cases e
  exact hx

def setV (j : Nat) (u : Value) (vs : Nat → Value) (i : Nat) : Value := if i = j then u else vs i
theorem setV_same {j : Nat} {u : Value} {vs : Nat → Value} : setV j u vs j = u := by simp [setV]
theorem setV_ne {i j : Nat} {u : Value} {vs : Nat → Value} (h : i ≠ j) : setV j u vs i = vs i := by simp [setV, h]
theorem OwnV.store {w : World} {B g n cap : Nat} {vs : Nat → Value} (h : OwnV w B (.slice (some ⟨g, 0, none⟩) n cap) n vs) (j : Nat) (u : Value) :
    OwnV (w.setCell ⟨g, j, none⟩ u) B (.slice (some ⟨g, 0, none⟩) n cap) n (setV j u vs) := by
  have h1 := World.ownsRow.stored h j u
  unfold OwnV
  have e : (cellsV n vs).set j u = cellsV n (setV j u vs) := by
    refine List.ext_getElem? fun i => ?_
    by_cases hi : i < n
    · rw [cellsV_get hi, List.getElem?_set]
      by_cases e : j = i
      · subst e; simp [setV, length_cellsV, hi]
      · rw [if_neg e, cellsV_get hi, setV_ne (Ne.symm e)]
    · rw [List.getElem?_eq_none (by rw [List.length_set, length_cellsV]; omega), List.getElem?_eq_none (by rw [length_cellsV]; omega)]
  rw [← e]
  exact h1.1

/-- N lists, each in memory of its own, no two in one block. -/
structure Fam (w : World) (B N : Nat) (vs : Nat → Value) (ns : Nat → Nat) (fs : Nat → Nat → Int) : Prop where
  own : ∀ i, i < N → Own w B (vs i) (ns i) (fs i)
  apart : ∀ i j, i < N → j < N → i ≠ j → ∀ b, (vs i).ownBlock = some b → (vs j).ownBlock ≠ some b
theorem Fam.keep {w w' : World} {B N : Nat} {vs : Nat → Value} {ns : Nat → Nat} {fs : Nat → Nat → Int} (h : Fam w B N vs ns fs) (k : ∀ i, i < N → ∀ b, (vs i).ownBlock = some b → w'.heap[b]? = w.heap[b]?) : Fam w' B N vs ns fs :=
  ⟨fun i hi => (h.own i hi).keep (k i hi), h.apart⟩
theorem Fam.below {w w' : World} {B N : Nat} {vs : Nat → Value} {ns : Nat → Nat} {fs : Nat → Nat → Int} (h : Fam w B N vs ns fs) (hb : Below w.heap.size w w') : Fam w' B N vs ns fs :=
  h.keep fun i hi b e => hb.block b ((h.own i hi).lt e).2
theorem Fam.congr {w : World} {B N : Nat} {vs : Nat → Value} {ns : Nat → Nat} {fs gs : Nat → Nat → Int} (h : Fam w B N vs ns fs) (e : ∀ i, i < N → ∀ j, j < ns i → fs i j = gs i j) : Fam w B N vs ns gs :=
  ⟨fun i hi => (h.own i hi).congr (e i hi), h.apart⟩
theorem Fam.zero (w : World) (B : Nat) (vs : Nat → Value) (ns : Nat → Nat) (fs : Nat → Nat → Int) : Fam w B 0 vs ns fs := ⟨fun i hi => by omega, fun i j hi => by omega⟩
theorem Fam.snoc {w : World} {B N : Nat} {vs : Nat → Value} {ns : Nat → Nat} {fs : Nat → Nat → Int} (h : Fam w B N vs ns fs) {u : Value} (hu : Own w B u (ns N) (fs N)) (ha : ∀ i, i < N → ∀ b, (vs i).ownBlock = some b → u.ownBlock ≠ some b) :
    Fam w B (N + 1) (setV N u vs) ns fs := by
  refine ⟨fun i hi => ?_, fun i j hi hj hne b hb => ?_⟩
  · by_cases e : i = N
    · subst e; rw [setV_same]; exact hu
    · rw [setV_ne e]; exact h.own i (by omega)
  · by_cases e : i = N
    · subst e
      rw [setV_same] at hb
      rw [setV_ne (Ne.symm hne)]
      intro hj2
      exact ha j (by omega) b hj2 hb
    · rw [setV_ne e] at hb
      by_cases e2 : j = N
      · subst e2; rw [setV_same]; exact ha i (by omega) b hb
      · rw [setV_ne e2]; exact h.apart i j (by omega) (by omega) hne b hb
theorem Fam.slices {w : World} {B N : Nat} {vs : Nat → Value} {ns : Nat → Nat} {fs : Nat → Nat → Int} (h : Fam w B N vs ns fs) : ∀ i, i < N → ∃ a m c, vs i = .slice a m c := fun i hi => by
  obtain ⟨a, c, e, _⟩ := (h.own i hi).shape
  exact ⟨a, _, c, e⟩

section
variable {w : World} {ops : Array Oper} {rest : List Oper} {o : Oper} {a : Act} {Q : Exit → Act → World → Prop}

/-- append(s, x...), s a slice of slices of the call's own. -/
theorem wplV_append (hgd : o.guard = none) (s x : Operand) (ho : o.op = .call { callee := .builtin .append, args := #[s, x], argTypes := #[28, 28] })
    (B : Nat) (v : Value) (n : Nat) (f : Nat → Value) (hs : a.eval s = v) (hown : OwnV w B v n f)
    (ad : Addr) (m c : Nat) (g : Nat → Value) (hx : a.eval x = .slice (some ad) m c) (hrd : RdV w (some ad) m g) (h1 : ∀ i, i < m → ∃ a k c, g i = .slice a k c)
    (hbytes : (n + m) * 24 ≤ 140737488355328) (hbase : B ≤ w.heap.size)
    (h : ∀ v' w', OwnV w' B v' (n + m) (joinV n f g) → Below B w w' → w.grownBy w' v.ownBlock → wpList Try.prog ops Q rest (a.put o.dst v') w') :
    wpList Try.prog ops Q (o :: rest) a w := by
  obtain ⟨i, hi, hz0, hz1, hz2⟩ := info_parts infoInts
  refine wpList_append_own w hgd s x 28 ho B 22 i (.slice none 0 0) 1 24 Try.underlying28 hi hz0 hz1 hz2 rfl (by decide) v n (cellsV n f) hs hown ad m c (cellsV m g) hx (by rw [length_cellsV]; omega) ?_ (cellsV_one h1) (by unfold maxLen; omega) hbytes hbase ?_
  · intro j u hj
    have hjm : j < m := by
      have := (List.getElem?_eq_some_iff.1 hj).1
      rwa [length_cellsV] at this
    rw [cellsV_get hjm] at hj
    obtain ⟨b, off, e, hc⟩ := hrd.at hjm
    cases e
    rw [← hj, add_at]
    exact hc j hjm
  · intro v' w' h1 h2 _
    have hlt := World.ownsRow.lt hown
    refine h v' w' ?_ ((Below.refl B w).grown h2 hbase fun k hk => (hlt k hk).1) h2
    unfold OwnV; rw [← cellsV_join]; exact h1

/-- make([][]int, n). -/
theorem wplV_make (hgd : o.guard = none) (l c : Operand) (ho : o.op = Op.makeSlice 28 l c) (B : Nat) (L C : Int) (n : Nat)
    (hl : a.eval l = .int .i64 L) (hc : a.eval c = .int .i64 C) (hL : L = (n : Int)) (hC : C = (n : Int)) (hbytes : n * 24 ≤ 140737488355328) (hbase : B ≤ w.heap.size)
    (h : ∀ w', OwnV w' B (.slice (some ⟨w.heap.size, 0, none⟩) n n) n (fun _ => .slice none 0 0) → Below B w w' → w.grownBy w' none → wpList Try.prog ops Q rest (a.put o.dst (.slice (some ⟨w.heap.size, 0, none⟩) n n)) w') :
    wpList Try.prog ops Q (o :: rest) a w := by
  obtain ⟨i, hi, hz0, hz1, hz2⟩ := info_parts infoInts
  refine wpList_make_full w hgd l c 28 ho B 22 i (.slice none 0 0) 1 Try.underlying28 hi hz0 hz1 .i64 .i64 L C n hl hc hL hC (by rw [hz2]; omega) (by unfold maxLen; omega) hbase ?_
  intro w' h1 h2
  refine h w' ?_ ((Below.refl B w).grown h2 hbase fun k hk => by cases hk) h2
  unfold OwnV
  have e : (madeCells (Value.slice none 0 0).cells (n * 1)).toList = cellsV n fun _ => .slice none 0 0 := by
    show (madeCells #[.slice none 0 0] (n * 1)).toList = _
    rw [toList_madeCells_one, Nat.mul_one]
    refine List.ext_getElem? fun i => ?_
    by_cases hi : i < n
    · rw [cellsV_get hi, List.getElem?_replicate, if_pos hi]
    · rw [List.getElem?_eq_none (by simp; omega), List.getElem?_eq_none (by rw [length_cellsV]; omega)]
  rw [← e]; exact h1

/-- append(s, x) of one more number, s the call's own: in place, or in a new block while the old one stays. -/
theorem wpl_append2 (hgd : o.guard = none) (s x : Operand) (ho : o.op = .call { callee := .builtin .append, args := #[s, x], argTypes := #[22, 22] })
    (B : Nat) (v : Value) (n : Nat) (f : Nat → Int) (hs : a.eval s = v) (hown : Own w B v n f)
    (ad : Addr) (m c : Nat) (g : Nat → Int) (hx : a.eval x = .slice (some ad) m c) (hrd : Rd w (some ad) m g)
    (hbytes : (n + m) * 8 ≤ 140737488355328) (hbase : B ≤ w.heap.size)
    (h1 : ∀ gg cap w', v = .slice (some ⟨gg, 0, none⟩) n cap → n + m ≤ cap → Own w' B (.slice (some ⟨gg, 0, none⟩) (n + m) cap) (n + m) (joinF n f g) → w.grownBy w' (some gg) → wpList Try.prog ops Q rest (a.put o.dst (.slice (some ⟨gg, 0, none⟩) (n + m) cap)) w')
    (h2 : ∀ v' w', Own w' w.heap.size v' (n + m) (joinF n f g) → w.grownBy w' none → wpList Try.prog ops Q rest (a.put o.dst v') w') :
    wpList Try.prog ops Q (o :: rest) a w := by
  obtain ⟨i, hi, hz0, hz1, hz2⟩ := info_parts infoInt
  have hnews : ∀ j u, (cellsOf m g)[j]? = some u → w.cell? (ad.add j) = some u := by
    intro j u hj
    have hjm : j < m := by
      have := (List.getElem?_eq_some_iff.1 hj).1
      rwa [length_cellsOf] at this
    rw [cellsOf_get hjm] at hj
    obtain ⟨b, off, e, hc⟩ := hrd.at hjm
    cases e
    rw [← hj, add_at]; exact hc j hjm
  have hgrow : ∀ (ao : Option Addr) (cap : Nat), v = .slice ao n cap → (ao = none → n = 0 ∧ cap = 0) → Rd w ao n f → cap < n + m → wpList Try.prog ops Q (o :: rest) a w := by
    intro ao cap e hnone hrd2 hfull
    refine wpList_append_grows w hgd s x 22 ho 3 i (.int .i64 0) 1 8 Try.underlying22 hi hz0 hz1 hz2 rfl (by decide) ao n cap (cellsOf n f) (by rw [hs, e]) hnone (by rw [length_cellsOf]; omega) ?_ ad m c (cellsOf m g) hx (by rw [length_cellsOf]; omega) hnews cellsOf_one hfull (by unfold maxLen; omega) hbytes ?_
    · intro b hb j u hj
      have hjn : j < n := by
        have := (List.getElem?_eq_some_iff.1 hj).1
        rwa [length_cellsOf] at this
      rw [cellsOf_get hjn] at hj
      obtain ⟨bb, off, e2, hc⟩ := hrd2.at hjn
      rw [hb] at e2
      cases e2
      rw [← hj, add_at]; exact hc j hjn
    · intro v' w' r1 r2
      exact h2 v' w' (by unfold Own; rw [← cellsOf_join]; exact r1) r2
  rcases id hown.2 with ⟨e, e0⟩ | ⟨gg, cap, cur, e, hg, hcell, hnc, hm, hsz, ht⟩
  · by_cases hm0 : m = 0
    · subst hm0; subst e0
      refine wpList_append_own w hgd s x 22 ho B 3 i (.int .i64 0) 1 8 Try.underlying22 hi hz0 hz1 hz2 rfl (by decide) v 0 (cellsOf 0 f) hs hown ad 0 c (cellsOf 0 g) hx rfl hnews cellsOf_one (by unfold maxLen; omega) hbytes hbase ?_
      intro v' w' r1 r2 r3
      have hv : v' = .slice none 0 0 := r3.2 ⟨e, rfl⟩
      subst hv
      refine h2 _ w' (Own.nil _ _ _) ?_
      rw [e] at r2; exact r2
    · exact hgrow none 0 (by rw [e, e0]) (fun _ => ⟨e0, rfl⟩) (.inl e0) (by omega)
  · by_cases hfit : n + m ≤ cap
    · refine wpList_append_fits w hgd s x 22 ho B 3 i 1 Try.underlying22 hi hz1 gg n cap (cellsOf n f) (by rw [hs, e]) (by rw [← e]; exact hown) ad m c (cellsOf m g) hx (by rw [length_cellsOf]; omega) hnews cellsOf_one hfit ?_
      intro w' r1 r2
      exact h1 gg cap w' e hfit (by unfold Own; rw [← cellsOf_join]; exact r1) r2
    · obtain ⟨a2, c2, e2, _, _, hrd2, _⟩ := hown.shape
      rw [e] at e2
      cases e2
      exact hgrow _ _ e (fun h => by cases h) hrd2 (by omega)

/-- append(s, x...), s a slice of slices of the call's own: where it lies behind it. -/
theorem wplV_append3 (hgd : o.guard = none) (s x : Operand) (ho : o.op = .call { callee := .builtin .append, args := #[s, x], argTypes := #[28, 28] })
    (B : Nat) (v : Value) (n : Nat) (f : Nat → Value) (hs : a.eval s = v) (hown : OwnV w B v n f)
    (ad : Addr) (m c : Nat) (g : Nat → Value) (hx : a.eval x = .slice (some ad) m c) (hrd : RdV w (some ad) m g) (h1 : ∀ i, i < m → ∃ a k c, g i = .slice a k c) (hm : 0 < m)
    (hbytes : (n + m) * 24 ≤ 140737488355328) (hbase : B ≤ w.heap.size)
    (h : ∀ v' w', OwnV w' B v' (n + m) (joinV n f g) → w.grownBy w' v.ownBlock → (∀ b, v'.ownBlock = some b → v.ownBlock = some b ∨ w.heap.size ≤ b) → wpList Try.prog ops Q rest (a.put o.dst v') w') :
    wpList Try.prog ops Q (o :: rest) a w := by
  obtain ⟨i, hi, hz0, hz1, hz2⟩ := info_parts infoInts
  have hnews : ∀ j u, (cellsV m g)[j]? = some u → w.cell? (ad.add j) = some u := by
    intro j u hj
    have hjm : j < m := by
      have := (List.getElem?_eq_some_iff.1 hj).1
      rwa [length_cellsV] at this
    rw [cellsV_get hjm] at hj
    obtain ⟨b, off, e, hc⟩ := hrd.at hjm
    cases e
    rw [← hj, add_at]; exact hc j hjm
  have hgrow : ∀ (ao : Option Addr) (cap : Nat), v = .slice ao n cap → (ao = none → n = 0 ∧ cap = 0) → RdV w ao n f → cap < n + m → wpList Try.prog ops Q (o :: rest) a w := by
    intro ao cap e hnone hrd2 hfull
    refine wpList_append_grows w hgd s x 28 ho 22 i (.slice none 0 0) 1 24 Try.underlying28 hi hz0 hz1 hz2 rfl (by decide) ao n cap (cellsV n f) (by rw [hs, e]) hnone (by rw [length_cellsV]; omega) ?_ ad m c (cellsV m g) hx (by rw [length_cellsV]; omega) hnews (cellsV_one h1) hfull (by unfold maxLen; omega) hbytes ?_
    · intro b hb j u hj
      have hjn : j < n := by
        have := (List.getElem?_eq_some_iff.1 hj).1
        rwa [length_cellsV] at this
      rw [cellsV_get hjn] at hj
      obtain ⟨bb, off, e2, hc⟩ := hrd2.at hjn
      rw [hb] at e2
      cases e2
      rw [← hj, add_at]; exact hc j hjn
    · intro v' w' r1 r2
      have ho2 : OwnV w' w.heap.size v' (n + m) (joinV n f g) := by unfold OwnV; rw [← cellsV_join]; exact r1
      exact h v' w' (ho2.base hbase) ⟨r2.os, r2.tape, r2.output, r2.size, fun k hk _ => r2.block k hk (by simp)⟩ fun b e => .inr (ho2.lt e).1
  rcases id hown.2 with ⟨e, e0⟩ | ⟨gg, cap, cur, e, hg, hcell, hnc, hmx, hsz, ht⟩
  · exact hgrow none 0 (by rw [e, e0]) (fun _ => ⟨e0, rfl⟩) (.inl e0) (by omega)
  · by_cases hfit : n + m ≤ cap
    · refine wpList_append_fits w hgd s x 28 ho B 22 i 1 Try.underlying28 hi hz1 gg n cap (cellsV n f) (by rw [hs, e]) (by rw [← e]; exact hown) ad m c (cellsV m g) hx (by rw [length_cellsV]; omega) hnews (cellsV_one h1) hfit ?_
      intro w' r1 r2
      refine h _ w' (by unfold OwnV; rw [← cellsV_join]; exact r1) (by rw [e]; exact r2) fun b e2 => .inl (by rw [e]; exact e2)
    · obtain ⟨a2, c2, e2, _, _, hrd2⟩ := hown.shape
      rw [e] at e2
      cases e2
      exact hgrow _ _ e (fun h => by cases h) hrd2 (by omega)

/-- wpl_append2 with one way on. -/
theorem wpl_append3 (hgd : o.guard = none) (s x : Operand) (ho : o.op = .call { callee := .builtin .append, args := #[s, x], argTypes := #[22, 22] })
    (B : Nat) (v : Value) (n : Nat) (f : Nat → Int) (hs : a.eval s = v) (hown : Own w B v n f)
    (ad : Addr) (m c : Nat) (g : Nat → Int) (hx : a.eval x = .slice (some ad) m c) (hrd : Rd w (some ad) m g)
    (hbytes : (n + m) * 8 ≤ 140737488355328) (hbase : B ≤ w.heap.size)
    (h : ∀ v' w', Own w' B v' (n + m) (joinF n f g) →
      ((∃ gg cap, v = .slice (some ⟨gg, 0, none⟩) n cap ∧ v' = .slice (some ⟨gg, 0, none⟩) (n + m) cap ∧ w.grownBy w' (some gg)) ∨ (w.grownBy w' none ∧ ∀ b, v'.ownBlock = some b → w.heap.size ≤ b)) →
      wpList Try.prog ops Q rest (a.put o.dst v') w') :
    wpList Try.prog ops Q (o :: rest) a w :=
  wpl_append2 hgd s x ho B v n f hs hown ad m c g hx hrd hbytes hbase (fun gg cap w' e _ r1 r2 => h _ w' r1 (.inl ⟨gg, cap, e, rfl, r2⟩))
    (fun v' w' r1 r2 => h v' w' (r1.base hbase) (.inr ⟨r2, fun _ e => (r1.lt e).1⟩))

end
end Go.Proofs.Ytdlcbjbcehpooaa
