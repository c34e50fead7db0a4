/-
  Some texts of this seat, one behind the other.
-/
import Derived.Deep.MidRow
import Derived.Deep.WholeRow
import Derived.DeepKeys4
import Derived.Maps.OwnSet
import Derived.Test.YtdnmabemollbeaaDoorK1
import Derived.Test.YtdnmabemollbeaaDoorK2
import Derived.Test.YtdnmabemollbeaaDoorK3
/-
  Rows of numbers that are compared as they are: how they lie in memory, and that each is a key of its own.
-/
namespace Go.Proofs.YtdnmabemollbeaaDoor
open Go.RowKit Go.Maps

/-- One cell of a row: the first 64 are bytes, the others have two bytes. -/
def rc (i : Nat) (x : Int) : Value := if i < 64 then .int .u8 x else .int .u16 x
theorem rc_lo {i : Nat} (h : i < 64) (x : Int) : rc i x = .int .u8 x := if_pos h
theorem rc_hi {i : Nat} (h : ¬ i < 64) (x : Int) : rc i x = .int .u16 x := if_neg h
theorem rc_one (i : Nat) (x : Int) : (rc i x).oneCell' = true := by unfold rc; split <;> rfl
theorem rc_inj {i : Nat} {x y : Int} (h : rc i x = rc i y) : x = y := by
  unfold rc at h
  split at h <;> (injection h)
/-- A row's cells. -/
def rowC (f : Nat → Int) : List Value := (List.range 128).map fun i => rc i (f i)
theorem rowC_len (f : Nat → Int) : (rowC f).length = 128 := by simp [rowC]
theorem rowC_get (f : Nat → Int) {i : Nat} (h : i < 128) : (rowC f)[i]? = some (rc i (f i)) := by simp [rowC, h]
theorem rowC_one (f : Nat → Int) : ∀ v ∈ rowC f, v.oneCell' = true := by
  intro v hv
  obtain ⟨i, _, rfl⟩ := List.mem_map.1 hv
  exact rc_one _ _
theorem rowC_iff {f g : Nat → Int} : rowC f = rowC g ↔ ∀ i, i < 128 → f i = g i := by
  constructor
  · intro h i hi
    have h1 := rowC_get f hi
    rw [h, rowC_get g hi] at h1
    exact rc_inj (Option.some.inj h1).symm
  · intro h
    unfold rowC
    apply List.map_congr_left
    intro i hi
    rw [h i (List.mem_range.1 hi)]
/-- The cells of n rows. -/
def cellsR (n : Nat) (F : Nat → Nat → Int) : List Value := (List.range (n * 128)).map fun j => rc (j % 128) (F (j / 128) (j % 128))
theorem length_cellsR (n : Nat) (F : Nat → Nat → Int) : (cellsR n F).length = n * 128 := by simp [cellsR]
theorem cellsR_get {n : Nat} {F : Nat → Nat → Int} {s i : Nat} (hs : s < n) (hi : i < 128) : (cellsR n F)[s * 128 + i]? = some (rc i (F s i)) := by
  have h1 : s * 128 + i < n * 128 := by omega
  have h2 : (s * 128 + i) / 128 = s := by omega
  have h3 : (s * 128 + i) % 128 = i := by omega
  simp [cellsR, h1, h2, h3]
theorem cellsR_congr {n : Nat} {F G : Nat → Nat → Int} (h : ∀ s i, s < n → i < 128 → F s i = G s i) : cellsR n F = cellsR n G := by
  unfold cellsR
  apply List.map_congr_left
  intro j hj
  have := List.mem_range.1 hj
  rw [h (j / 128) (j % 128) (by omega) (by omega)]

/-- The rows lie in block g. -/
structure RowsAt (w : World) (g n : Nat) (F : Nat → Nat → Int) : Prop where
  cell : ∀ s i, s < n → i < 128 → w.cell? ⟨g, s * 128 + i, none⟩ = some (rc i (F s i))
theorem RowsAt.range {w : World} {g n : Nat} {F : Nat → Nat → Int} (h : RowsAt w g n F) {s : Nat} (hs : s < n) : w.rangeAt g (s * 128) (rowC (F s)) := fun j v hv => by
  have hj : j < 128 := by
    have := (List.getElem?_eq_some_iff.1 hv).1
    rwa [rowC_len] at this
  rw [rowC_get _ hj] at hv
  rw [← hv]; exact h.cell s j hs hj
theorem RowsAt.keep {w w' : World} {g n : Nat} {F : Nat → Nat → Int} (h : RowsAt w g n F) (e : w'.heap[g]? = w.heap[g]?) : RowsAt w' g n F :=
  ⟨fun s i hs hi => (World.cell?_of_block e).trans (h.cell s i hs hi)⟩
/-- One number turned. -/
def setR (s i : Nat) (x : Int) (F : Nat → Nat → Int) (s' i' : Nat) : Int := if s' = s ∧ i' = i then x else F s' i'
section
variable {w : World} {ops : Array Oper} {rest : List Oper} {o : Oper} {a : Act} {Q : Exit → Act → World → Prop}
end

end Go.Proofs.YtdnmabemollbeaaDoor

/-
  A row as a key of a map: two rows are one key just where their numbers are the same; what a map of rows holds that is filled as the classes come.
-/
namespace Go.Proofs.YtdnmabemollbeaaDoor
open Go.RowKit Go.Maps

theorem mapM_all {α β : Type} {f : α → Option β} {g : α → β} : ∀ (l : List α), (∀ x ∈ l, f x = some (g x)) → l.mapM f = some (l.map g)
  | [], _ => rfl
  | x :: l, h => by
    rw [List.mapM_cons, h x (by simp), mapM_all l fun y hy => h y (by simp [hy])]; rfl

theorem first_none2 {p : Nat → Bool} {n : Nat} (h : first p n = none) : ∀ j, j < n → p j = false := by
  rcases first_cases p n with ⟨_, hl⟩ | ⟨i, e, _⟩
  · exact hl
  · rw [h] at e; cases e
theorem first_skip {p : Nat → Bool} {n : Nat} (h : p n = false) : first p (n + 1) = first p n := by
  rcases first_cases p n with ⟨e, hl⟩ | ⟨i, e, hi, hp, hl⟩
  · rw [e]
    exact first_none fun j hj => by
      by_cases c : j = n
      · subst c; exact h
      · exact hl j (by omega)
  · rw [e]; exact first_some (by omega) hp hl

/-- A row's numbers fit. -/
def FitR (f : Nat → Int) : Prop := ∀ i, i < 128 → 0 ≤ f i ∧ f i < (if i < 64 then 256 else 65536)
theorem laidR : laidOutB Tryd.prog = true := by kernel_rfl
theorem drop_take_one {l : List Value} {i : Nat} {v : Value} (h : l[i]? = some v) : (l.drop i).take 1 = [v] := by
  obtain ⟨hl, e⟩ := List.getElem?_eq_some_iff.1 h
  rw [List.drop_eq_getElem_cons hl, e]; rfl
theorem wfR {f : Nat → Int} (h : FitR f) {i : Nat} (hi : i < 64) : (Lit.int .u8 (f i)).wf = true ∧ (Lit.int .u16 (f (64 + i))).wf = true := by
  have h1 := h i (by omega)
  have h2 := h (64 + i) (by omega)
  rw [if_pos hi] at h1
  rw [if_neg (by omega)] at h2
  refine ⟨?_, ?_⟩
  · have a : IntKind.u8.min = 0 := rfl
    have b : IntKind.u8.max = 255 := rfl
    simp only [Lit.wf, a, b, Bool.and_eq_true, decide_eq_true_eq]; omega
  · have a : IntKind.u16.min = 0 := rfl
    have b : IntKind.u16.max = 65535 := rfl
    simp only [Lit.wf, a, b, Bool.and_eq_true, decide_eq_true_eq]; omega
theorem lits8 {d i : Nat} {f : Nat → Int} (h : FitR f) (hi : i < 64) : Tryd.prog.keyLits (d + 1) 5 [rc i (f i)] = some [.int .u8 (f i)] := by
  rw [rc_lo hi]
  simp [Program.keyLits, Tryd.underlying5, (wfR h hi).1]
theorem lits16 {d i : Nat} {f : Nat → Int} (h : FitR f) (hi : i < 64) : Tryd.prog.keyLits (d + 1) 176 [rc (64 + i) (f (64 + i))] = some [.int .u16 (f (64 + i))] := by
  rw [rc_hi (by omega)]
  simp [Program.keyLits, Tryd.underlying176, (wfR h hi).2]
/-- Whether two states have the same row. -/
def eqR (F : Nat → Nat → Int) (s t : Nat) : Bool := (List.range 128).all fun i => F s i == F t i
theorem eqR_iff {F : Nat → Nat → Int} {s t : Nat} : eqR F s t = true ↔ ∀ i, i < 128 → F s i = F t i := by
  unfold eqR
  rw [List.all_eq_true]
  exact ⟨fun h i hi => by simpa using h i (List.mem_range.2 hi), fun h i hi => by simpa using h i (List.mem_range.1 hi)⟩
theorem eqR_row {F : Nat → Nat → Int} {s t : Nat} : eqR F s t = true ↔ rowC (F s) = rowC (F t) := by rw [eqR_iff, rowC_iff]
theorem eqR_eqv (F : Nat → Nat → Int) (N : Nat) : Eqv (eqR F) N :=
  ⟨fun _ _ => eqR_iff.2 fun _ _ => rfl, fun _ _ _ _ h => eqR_iff.2 fun i hi => (eqR_iff.1 h i hi).symm, fun _ _ _ _ _ _ h g => eqR_iff.2 fun i hi => (eqR_iff.1 h i hi).trans (eqR_iff.1 g i hi)⟩
end Go.Proofs.YtdnmabemollbeaaDoor

/-
  What the program's grouped returns: the classes of states with the same row.
-/
namespace Go.Proofs.YtdnmabemollbeaaDoor
open Go.RowKit Go.Maps

theorem cl_own {w : World} {B : Nat} {v : Value} {R : Nat → Nat → Bool} {n : Nat} (h : Own w B v n (fun i => if i < n then cl R i else 0)) : OwnL .i64 3 w B v (clL R n) := by
  refine list_of_own ?_
  rw [clL_len]
  exact h.congr fun i hi => by rw [if_pos hi, cl_at R hi]
theorem setF_next {R : Nat → Nat → Bool} {s : Nat} {x : Int} (h : x = cl R s) (i : Nat) : setF s x (fun i => if i < s then cl R i else 0) i = if i < s + 1 then cl R i else 0 := by
  unfold setF
  by_cases e : i = s
  · subst e; rw [if_pos rfl, if_pos (by omega), h]
  · rw [if_neg e]
    show (if i < s then cl R i else 0) = _
    by_cases c : i < s
    · rw [if_pos c, if_pos (by omega)]
    · rw [if_neg c, if_neg (by omega)]
theorem zeroI (w : World) : (zeroValue 3).run Tryd.prog w = .ok (.int .i64 0) w := by kernel_rfl
theorem range_new (w : World) (f : Nat → Int) (t : TypeId) : (w.alloc (.cells (rowC f).toArray t)).rangeAt w.heap.size 0 (rowC f) := fun j v hv => by
  rw [Nat.zero_add, cell_of_row _ _ j _ t (0, 0) (heap_alloc_new w _)]
  simpa using hv

end Go.Proofs.YtdnmabemollbeaaDoor
