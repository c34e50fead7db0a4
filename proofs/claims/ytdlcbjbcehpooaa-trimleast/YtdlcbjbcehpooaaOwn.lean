/-
  A slice of ints in memory of the call's own, by a length and a function; append to it, in one law.
-/
import Derived.Test.YtdlcbjbcehpooaaBase
namespace Go.Proofs.Ytdlcbjbcehpooaa
open Go.RowKit

theorem infoInt : (Try.prog.info? 3).map (fun i => (i.zero, i.size, i.bytes)) = some (some (.int .i64 0), 1, 8) := by kernel_rfl

theorem add_at (b off j : Nat) : (⟨b, off, none⟩ : Addr).add j = ⟨b, off + j, none⟩ := by cases j <;> simp [Addr.add]

/-- The cells of f 0, .., f (n - 1). -/
def cellsOf (n : Nat) (f : Nat → Int) : List Value := (List.range n).map fun i => .int .i64 (f i)
theorem length_cellsOf (n : Nat) (f : Nat → Int) : (cellsOf n f).length = n := by simp [cellsOf]
theorem cellsOf_get {n : Nat} {f : Nat → Int} {i : Nat} (h : i < n) : (cellsOf n f)[i]? = some (.int .i64 (f i)) := by simp [cellsOf, h]
theorem cellsOf_congr {n : Nat} {f g : Nat → Int} (h : ∀ i, i < n → f i = g i) : cellsOf n f = cellsOf n g := by
  unfold cellsOf; apply List.map_congr_left; intro i hi; rw [h i (by simpa using hi)]
theorem cellsOf_one {n : Nat} {f : Nat → Int} : ∀ u ∈ cellsOf n f, u.oneCell' = true := by
  intro u hu; simp [cellsOf] at hu; obtain ⟨i, _, rfl⟩ := hu; rfl

def constF (x : Int) (_ : Nat) : Int := x

/-- f for the first n places, then g. -/
def joinF (n : Nat) (f g : Nat → Int) (i : Nat) : Int := if i < n then f i else g (i - n)
theorem joinF_lt {n i : Nat} {f g : Nat → Int} (h : i < n) : joinF n f g i = f i := by unfold joinF; rw [if_pos h]
theorem joinF_ge {n i : Nat} {f g : Nat → Int} (h : n ≤ i) : joinF n f g i = g (i - n) := by unfold joinF; rw [if_neg (by omega)]
theorem cellsOf_join (n m : Nat) (f g : Nat → Int) : cellsOf n f ++ cellsOf m g = cellsOf (n + m) (joinF n f g) := by
  refine List.ext_getElem? fun i => ?_
  by_cases h : i < n
  · rw [List.getElem?_append_left (by rw [length_cellsOf]; exact h), cellsOf_get h, cellsOf_get (by omega), joinF_lt h]
  · rw [List.getElem?_append_right (by rw [length_cellsOf]; omega), length_cellsOf]
    by_cases h2 : i < n + m
    · rw [cellsOf_get (by omega), cellsOf_get h2, joinF_ge (by omega)]
    · rw [List.getElem?_eq_none (by rw [length_cellsOf]; omega), List.getElem?_eq_none (by rw [length_cellsOf]; omega)]

/-- The value v is a slice of n ints in memory of the call's own (from block B on), and reads as f. -/
def Own (w : World) (B : Nat) (v : Value) (n : Nat) (f : Nat → Int) : Prop := w.ownsRow B 3 1 v n (cellsOf n f)

theorem Own.nil (w : World) (B : Nat) (f : Nat → Int) : Own w B (.slice none 0 0) 0 f := World.ownsRow_nil _ _ _ _
theorem Own.congr {w : World} {B n : Nat} {v : Value} {f g : Nat → Int} (h : Own w B v n f) (e : ∀ i, i < n → f i = g i) : Own w B v n g := by
  unfold Own; rw [← cellsOf_congr e]; exact h
/-- What is owned, as a slice value. -/
theorem Own.shape {w : World} {B n : Nat} {v : Value} {f : Nat → Int} (h : Own w B v n f) :
    ∃ a c, v = .slice a n c ∧ (a = none → n = 0 ∧ c = 0) ∧ n ≤ c ∧ Rd w a n f ∧ (∀ x, a = some x → B ≤ x.block ∧ x.block < w.heap.size) := by
  have hlt := World.ownsRow.lt h
  obtain ⟨h1, h2⟩ := id h
  rcases h2 with ⟨rfl, rfl⟩ | ⟨g, cap, cur, rfl, hg, hcell, hnc, hm, hs, ht⟩
  · exact ⟨none, 0, rfl, fun _ => ⟨rfl, rfl⟩, Nat.le_refl _, Rd.nil _ _ _, fun x hx => by cases hx⟩
  · refine ⟨_, _, rfl, (fun h => by cases h), hnc, .inr ⟨g, 0, rfl, fun i hi => ?_⟩, fun x hx => ?_⟩
    · have := World.ownsRow.cellAt h i (by omega)
      rw [cellsOf_get hi] at this
      simpa using this
    · cases hx
      exact hlt g rfl

theorem Own.pos {w : World} {B n : Nat} {v : Value} {f : Nat → Int} (h : Own w B v n f) (hn : 0 < n) :
    ∃ g cap, v = .slice (some ⟨g, 0, none⟩) n cap ∧ n ≤ cap ∧ cap ≤ maxLen ∧ B ≤ g ∧ g < w.heap.size ∧ (∀ i, i < n → w.cell? ⟨g, i, none⟩ = some (.int .i64 (f i))) ∧ (∀ i, w.frozen? ⟨g, i, none⟩ = false) := by
  have hlt := World.ownsRow.lt h
  obtain ⟨h1, h2⟩ := id h
  rcases h2 with ⟨rfl, rfl⟩ | ⟨g, cap, cur, rfl, hg, hcell, hnc, hm, hs, ht⟩
  · omega
  · refine ⟨g, cap, rfl, hnc, hm, hg, (hlt g rfl).2, fun i hi => ?_, fun i => World.ownsRow.frozenAt h i⟩
    have := World.ownsRow.cellAt h i (by omega)
    rw [cellsOf_get hi] at this
    exact this

/-- A literal of n numbers. -/
theorem Own.lit (w : World) (B n : Nat) (f : Nat → Int) (cs : Array Value) (hb : B ≤ w.heap.size) (hm : n ≤ maxLen) (hc : cs.toList = cellsOf n f) :
    Own (w.alloc (.cells cs 3)) B (.slice (some ⟨w.heap.size, 0, none⟩) n n) n f := by
  unfold Own
  rw [← hc]
  have hs : cs.size = n := by rw [← Array.length_toList, hc, length_cellsOf]
  exact World.ownsRow_lit w cs n hb hm (by omega)

theorem Rd.lit (w : World) (n : Nat) (f : Nat → Int) (cs : Array Value) (hm : n ≤ maxLen) (hc : cs.toList = cellsOf n f) :
    Rd (w.alloc (.cells cs 3)) (some ⟨w.heap.size, 0, none⟩) n f := by
  obtain ⟨a, c, e, _, _, h, _⟩ := (Own.lit w w.heap.size n f cs (Nat.le_refl _) hm hc).shape
  cases e
  exact h

theorem Own.drew {w : World} {B n : Nat} {v : Value} {f : Nat → Int} (h : Own w B v n f) : Own w.drew B v n f := World.ownsRow.drew h
theorem Own.alloc {w : World} {B n : Nat} {v : Value} {f : Nat → Int} (h : Own w B v n f) (o : Obj) : Own (w.alloc o) B v n f := World.ownsRow.alloc h o

section
variable {w : World} {ops : Array Oper} {rest : List Oper} {o : Oper} {a : Act} {Q : Exit → Act → World → Prop}

/-- append(s, x...), s the call's own. -/
theorem wpl_append (hgd : o.guard = none) (s x : Operand) (ho : o.op = .call { callee := .builtin .append, args := #[s, x], argTypes := #[22, 22] })
    (B : Nat) (v : Value) (n : Nat) (f : Nat → Int) (hs : a.eval s = v) (hown : Own w B v n f)
    (ao : Option Addr) (m c : Nat) (g : Nat → Int) (hx : a.eval x = .slice ao m c) (hrd : Rd w ao m g) (hnil : ao = none → m = 0 ∧ c = 0)
    (hbytes : (n + m) * 8 ≤ 140737488355328) (hbase : B ≤ w.heap.size)
    (h : ∀ v' w', Own w' B v' (n + m) (joinF n f g) → Below B w w' → w.grownBy w' v.ownBlock → wpList Try.prog ops Q rest (a.put o.dst v') w') :
    wpList Try.prog ops Q (o :: rest) a w := by
  obtain ⟨i, hi, hz0, hz1, hz2⟩ := info_parts infoInt
  cases ao with
  | none =>
    obtain ⟨rfl, rfl⟩ := hnil rfl
    refine wpList_append_own_none hgd s x 22 ho B 3 i 1 Try.underlying22 hi v n (cellsOf n f) hs hown hx ?_
    refine h v w ?_ (Below.refl _ _) ⟨rfl, rfl, rfl, Nat.le_refl _, fun _ _ _ => rfl⟩
    exact Own.congr hown fun i hi => (joinF_lt hi).symm
  | some ad =>
    refine wpList_append_own w hgd s x 22 ho B 3 i (.int .i64 0) 1 8 Try.underlying22 hi hz0 hz1 hz2 rfl (by decide) v n (cellsOf n f) hs hown ad m c (cellsOf m g) hx (by rw [length_cellsOf]; omega) ?_ cellsOf_one (by unfold maxLen; omega) hbytes hbase ?_
    · intro j u hj
      have hjm : j < m := by
        have := (List.getElem?_eq_some_iff.1 hj).1
        rwa [length_cellsOf] at this
      rw [cellsOf_get hjm] at hj
      obtain ⟨b, off, e, hc⟩ := hrd.at hjm
      cases e
      rw [← hj]
      rw [add_at]; exact hc j hjm
    · intro v' w' h1 h2 _
      have hlt := World.ownsRow.lt hown
      refine h v' w' ?_ ((Below.refl B w).grown h2 hbase fun k hk => (hlt k hk).1) h2
      unfold Own; rw [← cellsOf_join]; exact h1

/-- make([]int, n). -/
theorem wpl_make (hgd : o.guard = none) (l c : Operand) (ho : o.op = Op.makeSlice 22 l c) (B : Nat) (L C : Int) (n : Nat)
    (hl : a.eval l = .int .i64 L) (hc : a.eval c = .int .i64 C) (hL : L = (n : Int)) (hC : C = (n : Int)) (hbytes : n * 8 ≤ 140737488355328) (hbase : B ≤ w.heap.size)
    (h : ∀ w', Own w' B (.slice (some ⟨w.heap.size, 0, none⟩) n n) n (fun _ => 0) → Below B w w' → w.grownBy w' none → wpList Try.prog ops Q rest (a.put o.dst (.slice (some ⟨w.heap.size, 0, none⟩) n n)) w') :
    wpList Try.prog ops Q (o :: rest) a w := by
  obtain ⟨i, hi, hz0, hz1, hz2⟩ := info_parts infoInt
  refine wpList_make_full w hgd l c 22 ho B 3 i (.int .i64 0) 1 Try.underlying22 hi hz0 hz1 .i64 .i64 L C n hl hc hL hC (by rw [hz2]; omega) (by unfold maxLen; omega) hbase ?_
  intro w' h1 h2
  refine h w' ?_ ((Below.refl B w).grown h2 hbase fun k hk => by cases hk) h2
  unfold Own
  have e : (madeCells (Value.int .i64 0).cells (n * 1)).toList = cellsOf n fun _ => 0 := by
    show (madeCells #[.int .i64 0] (n * 1)).toList = _
    rw [toList_madeCells_one, Nat.mul_one]
    refine List.ext_getElem? fun i => ?_
    by_cases hi : i < n
    · rw [cellsOf_get hi, List.getElem?_replicate, if_pos hi]
    · rw [List.getElem?_eq_none (by simp; omega), List.getElem?_eq_none (by rw [length_cellsOf]; omega)]
  rw [← e]; exact h1

/-- The first m places by g, the rest by f. -/
def copyF (m : Nat) (g f : Nat → Int) (i : Nat) : Int := if i < m then g i else f i

/-- copy(d, s), d the call's own and at least as long as s: its run, to be laid ahead of the walk. -/
theorem copy_run {w : World} {B g n cap : Nat} {f : Nat → Int} (hown : Own w B (.slice (some ⟨g, 0, none⟩) n cap) n f)
    {ao : Option Addr} {m : Nat} (c : Nat) {h' : Nat → Int} (hrd : Rd w ao m h') (hm : m ≤ n) :
    ∃ w', (Builtin.copy_ #[22, 22] 3 #[.slice (some ⟨g, 0, none⟩) n cap, .slice ao m c]).run Try.prog w = .ok (.int .i64 m) w' ∧
      Own w' B (.slice (some ⟨g, 0, none⟩) n cap) n (copyF m h' f) ∧ Below B w w' := by
  obtain ⟨h1, h2⟩ := id hown
  rcases h2 with ⟨e, _⟩ | ⟨g', cap', cur, e, hg, hcell, hnc, hmx, hsz, ht⟩
  · cases e
  · cases e
    by_cases h0 : m = 0
    · subst h0
      exact ⟨w, run_copy_none w _ _ _ 3 _ _ _ _ _ _ Try.underlying22 (by kernel_rfl) (Nat.zero_min _), hown.congr fun i hi => by simp [copyF], Below.refl _ _⟩
    · have hcl : (cellsOf m h').length = m := length_cellsOf _ _
      have hcur : cur.toList.length = cap := by rw [Array.length_toList, hsz, Nat.mul_one]
      obtain ⟨b, off, rfl, hc⟩ := hrd.at (i := 0) (by omega)
      have hrun := run_copy_row (P := Try.prog) w 22 22 3 3 g 0 n cap ⟨b, off, none⟩ m c cur 3 (cellsOf m h') Try.underlying22 (by kernel_rfl) hcell (by rw [hcl]; exact (Nat.min_eq_left hm).symm)
        (fun j v hj => by
          have hjm : j < m := by
            have := (List.getElem?_eq_some_iff.1 hj).1
            rwa [hcl] at this
          rw [cellsOf_get hjm] at hj
          rw [← hj, add_at]
          exact hc j hjm) (by rw [hcl, ← Array.length_toList, hcur]; omega) cellsOf_one
      rw [hcl] at hrun
      refine ⟨_, hrun, ?_, below_setRow (Below.refl _ _) hg _⟩
      have hheap : (w.setRow g (cur.toList.take 0 ++ cellsOf m h' ++ cur.toList.drop (0 + m)).toArray).heap[g]? = some (.cells (cellsOf m h' ++ cur.toList.drop m).toArray 3 (0, 0)) := by
        rw [setRow_heap w g cur _ 3 (0, 0) hcell]; simp
      refine ⟨by rw [length_cellsOf]; omega, .inr ⟨g, cap, _, rfl, hg, hheap, hnc, hmx, ?_, ?_⟩⟩
      · simp [hcl]; omega
      · rw [Nat.mul_one] at ht ⊢
        refine List.ext_getElem? fun i => ?_
        by_cases hi : i < n
        · rw [List.getElem?_take_of_lt hi, cellsOf_get hi]
          by_cases him : i < m
          · rw [List.getElem?_append_left (by rw [hcl]; exact him), cellsOf_get him]; simp [copyF, him]
          · rw [List.getElem?_append_right (by rw [hcl]; omega), hcl, List.getElem?_drop, show m + (i - m) = i by omega]
            have e2 : cur.toList[i]? = (cur.toList.take n)[i]? := (List.getElem?_take_of_lt hi).symm
            rw [e2, ht, cellsOf_get hi]; simp [copyF, him]
        · rw [List.getElem?_eq_none (by rw [List.length_take]; omega), List.getElem?_eq_none (by rw [length_cellsOf]; omega)]

/-- One place turned. -/
def setF (j : Nat) (x : Int) (f : Nat → Int) (i : Nat) : Int := if i = j then x else f i
theorem Own.store {w : World} {B g n cap : Nat} {f : Nat → Int} (h : Own w B (.slice (some ⟨g, 0, none⟩) n cap) n f) (j : Nat) (x : Int) :
    Own (w.setCell ⟨g, j, none⟩ (.int .i64 x)) B (.slice (some ⟨g, 0, none⟩) n cap) n (setF j x f) := by
  have h1 := World.ownsRow.stored h j (.int .i64 x)
  unfold Own
  have e : (cellsOf n f).set j (.int .i64 x) = cellsOf n (setF j x f) := by
    refine List.ext_getElem? fun i => ?_
    by_cases hi : i < n
    · rw [cellsOf_get hi, List.getElem?_set]
      by_cases e : j = i
      · subst e; simp [setF, length_cellsOf, hi]
      · rw [if_neg e, cellsOf_get hi]; simp [setF, Ne.symm e]
    · rw [List.getElem?_eq_none (by rw [List.length_set, length_cellsOf]; omega), List.getElem?_eq_none (by rw [length_cellsOf]; omega)]
  rw [← e]
  exact h1.1

end
end Go.Proofs.Ytdlcbjbcehpooaa
