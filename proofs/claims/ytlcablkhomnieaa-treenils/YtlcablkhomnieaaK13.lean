/-
  Some texts of this seat, one behind the other.
-/
import Derived.Test.YtlcablkhomnieaaK1
import Derived.Test.YtlcablkhomnieaaK2
import Derived.Test.YtlcablkhomnieaaK3
/-
  Slices of values of one cell each, by functions: make, append, stores; a square of Booleans, row by row.
-/
namespace Go.Proofs.Ytlcablkhomnieaa
open Go.RowKit

/-- What the program says of an element type of one cell and its slices. -/
structure EltV (e st : TypeId) (z : Value) (k : Nat) : Prop where
  und : Try.prog.underlying st = some (.slice e)
  info : (Try.prog.info? e).map (fun i => (i.zero, i.size, i.bytes)) = some (some z, 1, k)
  pos : 1 ≤ k
  one : z.cells = #[z]
/-- A slice of n values in memory of the call's own. -/
def OwnE (e : TypeId) (w : World) (B : Nat) (v : Value) (n : Nat) (vs : Nat → Value) : Prop := w.ownsRow B e 1 v n (cellsV n vs)
theorem OwnE.nil (e : TypeId) (w : World) (B : Nat) (vs : Nat → Value) : OwnE e w B (.slice none 0 0) 0 vs := World.ownsRow_nil _ _ _ _
theorem OwnE.congr {e : TypeId} {w : World} {B n : Nat} {v : Value} {f g : Nat → Value} (h : OwnE e w B v n f) (k : ∀ i, i < n → f i = g i) : OwnE e w B v n g := by
  unfold OwnE; rw [← cellsV_congr k]; exact h
theorem OwnE.lt {e : TypeId} {w : World} {B n : Nat} {v : Value} {f : Nat → Value} (h : OwnE e w B v n f) {b : Nat} (hb : v.ownBlock = some b) : B ≤ b ∧ b < w.heap.size := World.ownsRow.lt h b hb
theorem OwnE.keep {e : TypeId} {w w' : World} {B n : Nat} {v : Value} {f : Nat → Value} (h : OwnE e w B v n f) (k : ∀ b, v.ownBlock = some b → w'.heap[b]? = w.heap[b]?) : OwnE e w' B v n f := ownsRow_keep h k
theorem OwnE.below {e : TypeId} {w w' : World} {B n : Nat} {v : Value} {f : Nat → Value} (h : OwnE e w B v n f) (hb : Below w.heap.size w w') : OwnE e w' B v n f := h.keep fun b k => hb.block b (h.lt k).2
theorem OwnE.base {e : TypeId} {w : World} {B B' n : Nat} {v : Value} {f : Nat → Value} (h : OwnE e w B v n f) (hB : B' ≤ B) : OwnE e w B' v n f := ownsRow_base h hB
theorem OwnE.pos {e : TypeId} {w : World} {B n : Nat} {v : Value} {f : Nat → Value} (h : OwnE e w B v n f) (hn : 0 < n) :
    ∃ g cap, v = .slice (some ⟨g, 0, none⟩) n cap ∧ n ≤ cap ∧ cap ≤ maxLen ∧ B ≤ g ∧ g < w.heap.size ∧ (∀ i, i < n → w.cell? ⟨g, i, none⟩ = some (f i)) ∧ (∀ i, w.frozen? ⟨g, i, none⟩ = false) := by
  have hlt := World.ownsRow.lt h
  obtain ⟨h1, h2⟩ := id h
  rcases h2 with ⟨rfl, rfl⟩ | ⟨g, cap, cur, rfl, hg, hcell, hnc, hm, hs, ht⟩
  · omega
  · refine ⟨g, cap, rfl, hnc, hm, hg, (hlt g rfl).2, fun i hi => ?_, fun i => World.ownsRow.frozenAt h i⟩
    have := World.ownsRow.cellAt h i (by omega)
    rw [cellsV_get hi] at this
    exact this
theorem OwnE.shape {e : TypeId} {w : World} {B n : Nat} {v : Value} {f : Nat → Value} (h : OwnE e w B v n f) : ∃ a c, v = .slice a n c := by
  rcases h.2 with ⟨rfl, rfl⟩ | ⟨g, cap, cur, rfl, _⟩
  · exact ⟨none, 0, rfl⟩
  · exact ⟨_, _, rfl⟩
theorem OwnE.store {e : TypeId} {w : World} {B g n cap : Nat} {vs : Nat → Value} (h : OwnE e w B (.slice (some ⟨g, 0, none⟩) n cap) n vs) (j : Nat) (u : Value) :
    OwnE e (w.setCell ⟨g, j, none⟩ u) B (.slice (some ⟨g, 0, none⟩) n cap) n (setV j u vs) := by
  have h1 := World.ownsRow.stored h j u
  unfold OwnE
  have k : (cellsV n vs).set j u = cellsV n (setV j u vs) := by
    refine List.ext_getElem? fun i => ?_
    by_cases hi : i < n
    · rw [cellsV_get hi, List.getElem?_set]
      by_cases c : j = i
      · subst c; simp [setV, length_cellsV, hi]
      · rw [if_neg c, cellsV_get hi, setV_ne (Ne.symm c)]
    · rw [List.getElem?_eq_none (by rw [List.length_set, length_cellsV]; omega), List.getElem?_eq_none (by rw [length_cellsV]; omega)]
  rw [← k]
  exact h1.1

section
variable {w : World} {ops : Array Oper} {rest : List Oper} {o : Oper} {a : Act} {Q : Exit → Act → World → Prop}
/-- make([]T, n). -/
theorem wplE_make {e st : TypeId} {z : Value} {k : Nat} (E : EltV e st z k) (hgd : o.guard = none) (l c : Operand) (ho : o.op = Op.makeSlice st l c) (B : Nat) (L C : Int) (n : Nat)
    (hl : a.eval l = .int .i64 L) (hc : a.eval c = .int .i64 C) (hL : L = (n : Int)) (hC : C = (n : Int)) (hbytes : k * n ≤ 140737488355328) (hbase : B ≤ w.heap.size)
    (h : ∀ w', OwnE e w' B (.slice (some ⟨w.heap.size, 0, none⟩) n n) n (fun _ => z) → Below B w w' → wpList Try.prog ops Q rest (a.put o.dst (.slice (some ⟨w.heap.size, 0, none⟩) n n)) w') :
    wpList Try.prog ops Q (o :: rest) a w := by
  obtain ⟨i, hi, hz0, hz1, hz2⟩ := info_parts E.info
  have hk := E.pos
  have hlen : n ≤ maxLen := by
    have : 1 * n ≤ k * n := Nat.mul_le_mul_right _ hk
    unfold maxLen; omega
  refine wpList_make_full w hgd l c st ho B e i z 1 E.und hi hz0 hz1 .i64 .i64 L C n hl hc hL hC (by rw [hz2]; omega) hlen hbase ?_
  intro w' h1 h2
  refine h w' ?_ ((Below.refl B w).grown h2 hbase fun k hk => by cases hk)
  unfold OwnE
  have k : (madeCells z.cells (n * 1)).toList = cellsV n fun _ => z := by
    rw [E.one, toList_madeCells_one, Nat.mul_one]
    refine List.ext_getElem? fun i => ?_
    by_cases hi : i < n
    · rw [cellsV_get hi, List.getElem?_replicate, if_pos hi]
    · rw [List.getElem?_eq_none (by simp; omega), List.getElem?_eq_none (by rw [length_cellsV]; omega)]
  rw [← k]; exact h1
/-- append(s, u): u in a block of its own. -/
theorem wplE_push {e st : TypeId} {z : Value} {k : Nat} (E : EltV e st z k) (hgd : o.guard = none) (s x : Operand) (ho : o.op = .call { callee := .builtin .append, args := #[s, x], argTypes := #[st, st] })
    (B : Nat) (v : Value) (n : Nat) (f : Nat → Value) (hs : a.eval s = v) (hown : OwnE e w B v n f)
    (g c : Nat) (u : Value) (hx : a.eval x = .slice (some ⟨g, 0, none⟩) 1 c) (hu : w.cell? ⟨g, 0, none⟩ = some u) (h1 : u.oneCell' = true)
    (hbytes : (n + 1) * k ≤ 140737488355328) (hbase : B ≤ w.heap.size)
    (h : ∀ v' w', OwnE e w' B v' (n + 1) (joinV n f fun _ => u) → Below B w w' → w.grownBy w' v.ownBlock → (∀ b, v'.ownBlock = some b → v.ownBlock = some b ∨ b = w.heap.size) → wpList Try.prog ops Q rest (a.put o.dst v') w') :
    wpList Try.prog ops Q (o :: rest) a w := by
  obtain ⟨i, hi, hz0, hz1, hz2⟩ := info_parts E.info
  have hk := E.pos
  have hlen : n + 1 ≤ maxLen := by
    have : (n + 1) * 1 ≤ (n + 1) * k := Nat.mul_le_mul_left _ hk
    unfold maxLen; omega
  refine wpList_append_own_at w hgd s x st ho B e i z 1 k E.und hi hz0 hz1 hz2 (by rw [E.one]; rfl) (by decide) v n (cellsV n f) hs hown ⟨g, 0, none⟩ 1 c [u] hx rfl ?_ ?_ hlen hbytes hbase ?_
  · intro j y hj
    match j, hj with
    | 0, hj =>
      have : y = u := by simpa using hj.symm
      subst this
      exact hu
    | j + 1, hj => simp at hj
  · intro y hy
    have : y = u := by simpa using hy
    subst this; exact h1
  · intro v' w' r1 r2 _ r4
    have hlt := World.ownsRow.lt hown
    refine h v' w' ?_ ((Below.refl B w).grown r2 hbase fun k hk => (hlt k hk).1) r2 fun b hb => ?_
    · unfold OwnE
      have e1 : [u] = cellsV 1 fun _ => u := rfl
      rw [e1, cellsV_join] at r1
      exact r1
    · rcases r4 with r4 | r4
      · exact .inl (r4 ▸ hb)
      · rw [r4] at hb; cases hb; exact .inr rfl
end

/-- A square of Booleans reads as A. -/
structure Mat (w : World) (g N : Nat) (A : Nat → Nat → Bool) : Prop where
  row : ∀ s, s < N → ∃ r c, w.cell? ⟨g, s, none⟩ = some (.slice (some ⟨r, 0, none⟩) N c) ∧ ∀ t, t < N → w.cell? ⟨r, t, none⟩ = some (.bool (A s t))
theorem Mat.below {w w' : World} {g N : Nat} {A : Nat → Nat → Bool} (h : Mat w g N A) (hb : Below w.heap.size w w') : Mat w' g N A :=
  ⟨fun s hs => by
    obtain ⟨r, c, h1, h2⟩ := h.row s hs
    refine ⟨r, c, ?_, fun t ht => ?_⟩
    · rw [hb.cell (by exact World.block_lt_of_cell? w _ h1)]; exact h1
    · rw [hb.cell (by exact World.block_lt_of_cell? w _ (h2 t ht))]; exact h2 t ht⟩
theorem Mat.congr {w : World} {g N : Nat} {A A' : Nat → Nat → Bool} (h : Mat w g N A) (k : ∀ s t, s < N → t < N → A s t = A' s t) : Mat w g N A' :=
  ⟨fun s hs => by
    obtain ⟨r, c, h1, h2⟩ := h.row s hs
    exact ⟨r, c, h1, fun t ht => by rw [← k s t hs ht]; exact h2 t ht⟩⟩

/-- A row of Booleans by a function. -/
def bv (f : Nat → Bool) (i : Nat) : Value := .bool (f i)
end Go.Proofs.Ytlcablkhomnieaa

/-
  What the reference's classes returns: classes by which states are apart.
-/
namespace Go.Proofs.Ytlcablkhomnieaa
open Go.RowKit Go.Maps

theorem cl_rng (R : Nat → Nat → Bool) (r : Nat) : 0 ≤ cl R r ∧ cl R r ≤ (r : Int) := by
  rcases first_cases (R r) r with ⟨h, _⟩ | ⟨t, h, ht, _, _⟩
  · rw [cl_none h]
    have := nc_le R r
    omega
  · rw [cl_some h ht]
    have := cl_rng R t
    omega
  termination_by r
theorem clL_rng (R : Nat → Nat → Bool) (s r : Nat) : 0 ≤ (clL R s).getD r 0 ∧ (clL R s).getD r 0 ≤ (s : Int) := by
  by_cases h : r < s
  · rw [cl_at R h]
    have := cl_rng R r
    omega
  · rw [List.getD, List.getElem?_eq_none (by rw [clL_len]; omega), Option.getD_none]
    omega
/-- The class that was found among the first t; -1: none yet. -/
def inC (R : Nat → Nat → Bool) (s t : Nat) : Int := match first (R s) t with
  | some r => (clL R s).getD r 0
  | none => -1
theorem inC_zero (R : Nat → Nat → Bool) (s : Nat) : inC R s 0 = -1 := rfl
theorem inC_skip {R : Nat → Nat → Bool} {s t : Nat} (h : first (R s) t = none) (hr : R s t = false) : inC R s (t + 1) = -1 := by
  have : first (R s) (t + 1) = none := first_none fun j hj => by
    by_cases c : j = t
    · subst c; exact hr
    · rcases first_cases (R s) t with ⟨_, hl⟩ | ⟨i, e, _⟩
      · exact hl j (by omega)
      · rw [h] at e; cases e
  unfold inC; rw [this]
theorem inC_hit {R : Nat → Nat → Bool} {s t : Nat} (h : first (R s) t = none) (hr : R s t = true) : inC R s (t + 1) = (clL R s).getD t 0 := by
  have : first (R s) (t + 1) = some t := first_some (by omega) hr fun j hj => by
    rcases first_cases (R s) t with ⟨_, hl⟩ | ⟨i, e, _⟩
    · exact hl j hj
    · rw [h] at e; cases e
  unfold inC; rw [this]
theorem clL_hit {R : Nat → Nat → Bool} {s t r : Nat} (h : first (R s) t = some r) (ht : t ≤ s) : clL R (s + 1) = clL R s ++ [(clL R s).getD r 0] ∧ nc R (s + 1) = nc R s := by
  have e : first (R s) s = some r := by
    rcases first_cases (R s) t with ⟨x, _⟩ | ⟨i, x, hi, hp, hl⟩
    · rw [h] at x; cases x
    · rw [h] at x; cases x
      exact first_some (by omega) hp hl
  constructor
  · show clL R s ++ [match first (R s) s with | some t => (clL R s).getD t 0 | none => ((nc R s : Nat) : Int)] = _
    rw [e]
  · show nc R s + (if first (R s) s = none then 1 else 0) = _
    rw [e]; rfl
theorem clL_miss {R : Nat → Nat → Bool} {s : Nat} (h : first (R s) s = none) : clL R (s + 1) = clL R s ++ [((nc R s : Nat) : Int)] ∧ nc R (s + 1) = nc R s + 1 := by
  constructor
  · show clL R s ++ [match first (R s) s with | some t => (clL R s).getD t 0 | none => ((nc R s : Nat) : Int)] = _
    rw [h]
  · show nc R s + (if first (R s) s = none then 1 else 0) = _
    rw [h]; rfl

end Go.Proofs.Ytlcablkhomnieaa
