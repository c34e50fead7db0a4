/-
  Some texts of this seat, one behind the other.
-/
import Derived.Deep.MidRow
import Derived.Deep.WholeRow
import Derived.DeepKeys4
import Derived.Maps.OwnSet
import Derived.Test.YtoiogggibfmncaaK1
import Derived.Test.YtoiogggibfmncaaK2
import Derived.Test.YtoiogggibfmncaaK3
/-
  Rows of numbers that are compared as they are: how they lie in memory, and that each is a key of its own.
-/
namespace Go.Proofs.Ytoiogggibfmncaa
open Go.RowKit Go.Maps

/-- One cell of a row: the first 64 are bytes, the others have two bytes. -/
def rc (i : Nat) (x : Int) : Value := if i < 64 then .int .u8 x else .int .u16 x
theorem rc_lo {i : Nat} (h : i < 64) (x : Int) : rc i x = .int .u8 x := if_pos h
theorem rc_hi {i : Nat} (h : ¬ i < 64) (x : Int) : rc i x = .int .u16 x := if_neg h
theorem rc_one (i : Nat) (x : Int) : (rc i x).oneCell' = true := by unfold rc; split <;> rfl
theorem rc_inj {i : Nat} {x y : Int} (h : rc i x = rc i y) : x = y := by
  unfold rc at h
  split at h <;> (injection h)
/-- A row's cells. -/
def rowC (f : Nat → Int) : List Value := (List.range 128).map fun i => rc i (f i)
theorem rowC_len (f : Nat → Int) : (rowC f).length = 128 := by simp [rowC]
theorem rowC_get (f : Nat → Int) {i : Nat} (h : i < 128) : (rowC f)[i]? = some (rc i (f i)) := by simp [rowC, h]
theorem rowC_one (f : Nat → Int) : ∀ v ∈ rowC f, v.oneCell' = true := by
  intro v hv
  obtain ⟨i, _, rfl⟩ := List.mem_map.1 hv
  exact rc_one _ _
theorem rowC_iff {f g : Nat → Int} : rowC f = rowC g ↔ ∀ i, i < 128 → f i = g i := by
  constructor
  · intro h i hi
    have h1 := rowC_get f hi
    rw [h, rowC_get g hi] at h1
    exact rc_inj (Option.some.inj h1).symm
  · intro h
    unfold rowC
    apply List.map_congr_left
    intro i hi
    rw [h i (List.mem_range.1 hi)]
/-- The cells of n rows. -/
def cellsR (n : Nat) (F : Nat → Nat → Int) : List Value := (List.range (n * 128)).map fun j => rc (j % 128) (F (j / 128) (j % 128))
theorem length_cellsR (n : Nat) (F : Nat → Nat → Int) : (cellsR n F).length = n * 128 := by simp [cellsR]
theorem cellsR_get {n : Nat} {F : Nat → Nat → Int} {s i : Nat} (hs : s < n) (hi : i < 128) : (cellsR n F)[s * 128 + i]? = some (rc i (F s i)) := by
  have h1 : s * 128 + i < n * 128 := by omega
  have h2 : (s * 128 + i) / 128 = s := by omega
  have h3 : (s * 128 + i) % 128 = i := by omega
  simp [cellsR, h1, h2, h3]
theorem cellsR_congr {n : Nat} {F G : Nat → Nat → Int} (h : ∀ s i, s < n → i < 128 → F s i = G s i) : cellsR n F = cellsR n G := by
  unfold cellsR
  apply List.map_congr_left
  intro j hj
  have := List.mem_range.1 hj
  rw [h (j / 128) (j % 128) (by omega) (by omega)]

/-- The value v is a slice of n rows in memory of the call's own (from block B on), and reads as F. -/
def OwnR (w : World) (B : Nat) (v : Value) (n : Nat) (F : Nat → Nat → Int) : Prop := w.ownsRow B 91 128 v n (cellsR n F)
theorem OwnR.congr {w : World} {B n : Nat} {v : Value} {F G : Nat → Nat → Int} (h : OwnR w B v n F) (e : ∀ s i, s < n → i < 128 → F s i = G s i) : OwnR w B v n G := by
  unfold OwnR; rw [← cellsR_congr e]; exact h
theorem OwnR.lt {w : World} {B n : Nat} {v : Value} {F : Nat → Nat → Int} (h : OwnR w B v n F) {b : Nat} (e : v.ownBlock = some b) : B ≤ b ∧ b < w.heap.size := World.ownsRow.lt h b e
theorem OwnR.drew {w : World} {B n : Nat} {v : Value} {F : Nat → Nat → Int} (h : OwnR w B v n F) : OwnR w.drew B v n F := World.ownsRow.drew h
theorem OwnR.keep {w w' : World} {B n : Nat} {v : Value} {F : Nat → Nat → Int} (h : OwnR w B v n F) (k : ∀ b, v.ownBlock = some b → w'.heap[b]? = w.heap[b]?) : OwnR w' B v n F := by
  obtain ⟨h1, h2⟩ := h
  refine ⟨h1, ?_⟩
  rcases h2 with h2 | ⟨g, cap, cur, rfl, hg, hcell, rest⟩
  · exact .inl h2
  · exact .inr ⟨g, cap, cur, rfl, hg, by rw [k g rfl]; exact hcell, rest⟩
theorem OwnR.mono {w : World} {B B' n : Nat} {v : Value} {F : Nat → Nat → Int} (h : OwnR w B v n F) (hb : B' ≤ B) : OwnR w B' v n F := by
  obtain ⟨h1, h2⟩ := h
  refine ⟨h1, ?_⟩
  rcases h2 with h | ⟨g, cap, cur, e, hg, r⟩
  · exact .inl h
  · exact .inr ⟨g, cap, cur, e, Nat.le_trans hb hg, r⟩

/-- The rows lie in block g. -/
structure RowsAt (w : World) (g n : Nat) (F : Nat → Nat → Int) : Prop where
  cell : ∀ s i, s < n → i < 128 → w.cell? ⟨g, s * 128 + i, none⟩ = some (rc i (F s i))
theorem RowsAt.range {w : World} {g n : Nat} {F : Nat → Nat → Int} (h : RowsAt w g n F) {s : Nat} (hs : s < n) : w.rangeAt g (s * 128) (rowC (F s)) := fun j v hv => by
  have hj : j < 128 := by
    have := (List.getElem?_eq_some_iff.1 hv).1
    rwa [rowC_len] at this
  rw [rowC_get _ hj] at hv
  rw [← hv]; exact h.cell s j hs hj
theorem RowsAt.keep {w w' : World} {g n : Nat} {F : Nat → Nat → Int} (h : RowsAt w g n F) (e : w'.heap[g]? = w.heap[g]?) : RowsAt w' g n F :=
  ⟨fun s i hs hi => (World.cell?_of_block e).trans (h.cell s i hs hi)⟩
theorem OwnR.pos {w : World} {B n : Nat} {v : Value} {F : Nat → Nat → Int} (h : OwnR w B v n F) (hn : 0 < n) :
    ∃ g cap, v = .slice (some ⟨g, 0, none⟩) n cap ∧ n ≤ cap ∧ cap ≤ maxLen ∧ B ≤ g ∧ g < w.heap.size ∧ RowsAt w g n F ∧ (∀ i, w.frozen? ⟨g, i, none⟩ = false) := by
  have hlt := World.ownsRow.lt h
  obtain ⟨h1, h2⟩ := id h
  rcases h2 with ⟨rfl, h0⟩ | ⟨g, cap, cur, rfl, hg, hcell, hnc, hm, hs, ht⟩
  · omega
  · refine ⟨g, cap, rfl, hnc, hm, hg, (hlt g rfl).2, ⟨fun s i hs hi => ?_⟩, fun i => World.ownsRow.frozenAt h i⟩
    have := World.ownsRow.cellAt h (s * 128 + i) (by omega)
    rw [cellsR_get hs hi] at this
    exact this
/-- One number turned. -/
def setR (s i : Nat) (x : Int) (F : Nat → Nat → Int) (s' i' : Nat) : Int := if s' = s ∧ i' = i then x else F s' i'
theorem OwnR.store {w : World} {B g n cap : Nat} {F : Nat → Nat → Int} (h : OwnR w B (.slice (some ⟨g, 0, none⟩) n cap) n F) {s i : Nat} (hi : i < 128) (x : Int) :
    OwnR (w.setCell ⟨g, s * 128 + i, none⟩ (rc i x)) B (.slice (some ⟨g, 0, none⟩) n cap) n (setR s i x F) := by
  have h1 := World.ownsRow.stored h (s * 128 + i) (rc i x)
  unfold OwnR
  have e : (cellsR n F).set (s * 128 + i) (rc i x) = cellsR n (setR s i x F) := by
    refine List.ext_getElem? fun j => ?_
    by_cases hj : j < n * 128
    · obtain ⟨t, y, ht, hy, rfl⟩ : ∃ t y, t < n ∧ y < 128 ∧ j = t * 128 + y := ⟨j / 128, j % 128, by omega, by omega, by omega⟩
      rw [cellsR_get ht hy, List.getElem?_set]
      by_cases e : s * 128 + i = t * 128 + y
      · obtain ⟨rfl, rfl⟩ : s = t ∧ i = y := by omega
        rw [if_pos rfl, if_pos (by rw [length_cellsR]; omega)]
        simp [setR]
      · rw [if_neg e, cellsR_get ht hy]
        have : ¬ (t = s ∧ y = i) := fun h => e (by rw [h.1, h.2])
        simp [setR, this]
    · rw [List.getElem?_eq_none (by rw [List.length_set, length_cellsR]; omega), List.getElem?_eq_none (by rw [length_cellsR]; omega)]
  rw [← e]
  exact h1.1

theorem infoRow : (Try.prog.info? 91).map (fun i => (i.zero, i.size, i.bytes)) = some (some (.agg (rowC fun _ => 0).toArray), 128, 192) := by kernel_rfl
theorem sizeRow : (Try.prog.info? 91).map (·.size) = some 128 := by kernel_rfl
theorem zeroRow (w : World) : (zeroValue 91).run Try.prog w = .ok (.agg (rowC fun _ => 0).toArray) w := by
  obtain ⟨i, hi, hz0, hz1, hz2⟩ := info_parts infoRow
  simp [zeroValue, typeInfo, hi, hz0]

section
variable {w : World} {ops : Array Oper} {rest : List Oper} {o : Oper} {a : Act} {Q : Exit → Act → World → Prop}
/-- make([]row, n). -/
theorem wplR_make (hgd : o.guard = none) (l c : Operand) (ho : o.op = Op.makeSlice 69 l c) (B : Nat) (L C : Int) (n : Nat)
    (hl : a.eval l = .int .i64 L) (hc : a.eval c = .int .i64 C) (hL : L = (n : Int)) (hC : C = (n : Int)) (hn : n ≤ 100000) (hbase : B ≤ w.heap.size)
    (h : ∀ w', OwnR w' B (.slice (some ⟨w.heap.size, 0, none⟩) n n) n (fun _ _ => 0) → Below B w w' → wpList Try.prog ops Q rest (a.put o.dst (.slice (some ⟨w.heap.size, 0, none⟩) n n)) w') :
    wpList Try.prog ops Q (o :: rest) a w := by
  obtain ⟨i, hi, hz0, hz1, hz2⟩ := info_parts infoRow
  refine wpList_make_full w hgd l c 69 ho B 91 i _ 128 Try.underlying69 hi hz0 hz1 .i64 .i64 L C n hl hc hL hC (by rw [hz2]; omega) (by unfold maxLen; omega) hbase ?_
  intro w' h1 h2
  refine h w' ?_ ((Below.refl B w).grown h2 hbase fun k hk => by cases hk)
  unfold OwnR
  have e : (madeCells (Value.agg (rowC fun _ => 0).toArray).cells (n * 128)).toList = cellsR n fun _ _ => 0 := by
    show (madeCells (rowC fun _ => 0).toArray (n * 128)).toList = _
    have hsz : (rowC fun _ => 0).toArray.size = 128 := by rw [List.size_toArray, rowC_len]
    refine List.ext_getElem? fun j => ?_
    by_cases hj : j < n * 128
    · obtain ⟨t, y, ht, hy, rfl⟩ : ∃ t y, t < n ∧ y < 128 ∧ j = t * 128 + y := ⟨j / 128, j % 128, by omega, by omega, by omega⟩
      rw [cellsR_get ht hy]
      have h3 : (t * 128 + y) % 128 = y := by omega
      have h4 : (rowC fun _ => 0).toArray[y]! = rc y 0 := by
        rw [getElem!_def]
        simp only [List.getElem?_toArray, rowC_get _ hy]
      simp only [madeCells, Array.toList_map, Array.toList_range, List.getElem?_map, List.getElem?_range hj, Option.map_some, hsz, h3, h4]
    · rw [List.getElem?_eq_none (by rw [Array.length_toList, size_madeCells]; omega), List.getElem?_eq_none (by rw [length_cellsR]; omega)]
  rw [← e]; exact h1
/-- For a walk: succeeds only where the next operation is a row's load out of x, a row's variable, a row's store. -/
theorem atR_load {d : Option Tmp} {t : TypeId} {p : String} {f : Array Edge} (x : Operand) (h : wpList Try.prog ops Q (⟨d, .load 91 x, t, p, f, none⟩ :: rest) a w) : wpList Try.prog ops Q (⟨d, .load 91 x, t, p, f, none⟩ :: rest) a w := h
theorem atR_alloc {d : Option Tmp} {t : TypeId} {p : String} {f : Array Edge} (h : wpList Try.prog ops Q (⟨d, .alloc 91, t, p, f, none⟩ :: rest) a w) : wpList Try.prog ops Q (⟨d, .alloc 91, t, p, f, none⟩ :: rest) a w := h
theorem atR_store {d : Option Tmp} {t : TypeId} {p : String} {f : Array Edge} (x y : Operand) (h : wpList Try.prog ops Q (⟨d, .store 91 x y, t, p, f, none⟩ :: rest) a w) : wpList Try.prog ops Q (⟨d, .store 91 x y, t, p, f, none⟩ :: rest) a w := h
/-- A row's load out of a slice of rows, or out of a variable. -/
theorem wplR_load (hgd : o.guard = none) (x : Operand) (ho : o.op = .load 91 x) (b off : Nat) (f : Nat → Int) (hx : a.eval x = .pointer (some ⟨b, off, none⟩)) (hc : w.rangeAt b off (rowC f))
    (h : wpList Try.prog ops Q rest (a.put o.dst (.agg (rowC f).toArray)) w) : wpList Try.prog ops Q (o :: rest) a w :=
  wpList_load_mid hgd 91 x ho b off hx (rowC f) _ hc Try.underlying91 rfl (by rw [rowC_len]; exact sizeRow) h
/-- A row's variable. -/
theorem wplR_alloc (hgd : o.guard = none) (ho : o.op = .alloc 91)
    (h : wpList Try.prog ops Q rest (a.put o.dst (.pointer (some ⟨w.heap.size, 0, none⟩))) (w.alloc (.cells (rowC fun _ => 0).toArray 91))) : wpList Try.prog ops Q (o :: rest) a w := by
  refine wpList_plain hgd fun K hK => ?_
  unfold Oper.wp
  simp [execOp, ho, Instr.alloc, zeroRow, newVar, Value.cells, Result.andThen]
  exact hK _ _ h
/-- A row into the variable that was made last. -/
theorem wplR_store (hgd : o.guard = none) (x y : Operand) (ho : o.op = .store 91 x y) (f g : Nat → Int) (w0 : World) (hw : w = w0.alloc (.cells (rowC f).toArray 91))
    (hx : a.eval x = .pointer (some ⟨w0.heap.size, 0, none⟩)) (hy : a.eval y = .agg (rowC g).toArray)
    (h : wpList Try.prog ops Q rest (a.put o.dst undef) (w0.alloc (.cells (rowC g).toArray 91))) : wpList Try.prog ops Q (o :: rest) a w := by
  refine wpList_plain hgd fun K hK => ?_
  have hs : ∀ f : Nat → Int, (rowC f).toArray.size = 128 := fun f => by rw [List.size_toArray, rowC_len]
  have hrun := run_storeVar_row (P := Try.prog) w w0.heap.size 91 91 (rowC f).toArray (rowC g).toArray (by rw [hw]; exact heap_alloc_new w0 _) (by rw [hs]; exact sizeRow) (by rw [hs, hs]) (all_oneCell_toArray (rowC_one g))
  have e : w.setRow w0.heap.size (rowC g).toArray = w0.alloc (.cells (rowC g).toArray 91) := by rw [hw]; exact World.setRow_alloc_new w0 _ _ _
  rw [e] at hrun
  unfold Oper.wp execOp
  simp only [ho, hx, hy, Instr.storeAt, Instr.sureAddr, Sem.run_bind, Sem.run_pure, Result.andThen_ok, hrun]
  exact hK _ _ h
end

end Go.Proofs.Ytoiogggibfmncaa

/-
  A row as a key of a map: two rows are one key just where their numbers are the same; what a map of rows holds that is filled as the classes come.
-/
namespace Go.Proofs.Ytoiogggibfmncaa
open Go.RowKit Go.Maps

theorem mapM_all {α β : Type} {f : α → Option β} {g : α → β} : ∀ (l : List α), (∀ x ∈ l, f x = some (g x)) → l.mapM f = some (l.map g)
  | [], _ => rfl
  | x :: l, h => by
    rw [List.mapM_cons, h x (by simp), mapM_all l fun y hy => h y (by simp [hy])]; rfl

theorem first_none2 {p : Nat → Bool} {n : Nat} (h : first p n = none) : ∀ j, j < n → p j = false := by
  rcases first_cases p n with ⟨_, hl⟩ | ⟨i, e, _⟩
  · exact hl
  · rw [h] at e; cases e
theorem first_skip {p : Nat → Bool} {n : Nat} (h : p n = false) : first p (n + 1) = first p n := by
  rcases first_cases p n with ⟨e, hl⟩ | ⟨i, e, hi, hp, hl⟩
  · rw [e]
    exact first_none fun j hj => by
      by_cases c : j = n
      · subst c; exact h
      · exact hl j (by omega)
  · rw [e]; exact first_some (by omega) hp hl

/-- A row's numbers fit. -/
def FitR (f : Nat → Int) : Prop := ∀ i, i < 128 → 0 ≤ f i ∧ f i < (if i < 64 then 256 else 65536)
theorem laidR : laidOutB Try.prog = true := by kernel_rfl
theorem wideR : (match Try.prog.underlying 91 with | some (.array _ _) | some (.struct _) => true | _ => false) = true := by rw [Try.underlying91]
theorem keyedR : Keyed Try.prog 91 := Keyed.of_law (deep_law_laid laidR (m := 3) (by omega) (of_decide_eq_true (by kernel_rfl)) (by kernel_rfl) wideR)
theorem drop_take_one {l : List Value} {i : Nat} {v : Value} (h : l[i]? = some v) : (l.drop i).take 1 = [v] := by
  obtain ⟨hl, e⟩ := List.getElem?_eq_some_iff.1 h
  rw [List.drop_eq_getElem_cons hl, e]; rfl
theorem wfR {f : Nat → Int} (h : FitR f) {i : Nat} (hi : i < 64) : (Lit.int .u8 (f i)).wf = true ∧ (Lit.int .u16 (f (64 + i))).wf = true := by
  have h1 := h i (by omega)
  have h2 := h (64 + i) (by omega)
  rw [if_pos hi] at h1
  rw [if_neg (by omega)] at h2
  refine ⟨?_, ?_⟩
  · have a : IntKind.u8.min = 0 := rfl
    have b : IntKind.u8.max = 255 := rfl
    simp only [Lit.wf, a, b, Bool.and_eq_true, decide_eq_true_eq]; omega
  · have a : IntKind.u16.min = 0 := rfl
    have b : IntKind.u16.max = 65535 := rfl
    simp only [Lit.wf, a, b, Bool.and_eq_true, decide_eq_true_eq]; omega
theorem lits8 {d i : Nat} {f : Nat → Int} (h : FitR f) (hi : i < 64) : Try.prog.keyLits (d + 1) 5 [rc i (f i)] = some [.int .u8 (f i)] := by
  rw [rc_lo hi]
  simp [Program.keyLits, Try.underlying5, (wfR h hi).1]
theorem lits16 {d i : Nat} {f : Nat → Int} (h : FitR f) (hi : i < 64) : Try.prog.keyLits (d + 1) 88 [rc (64 + i) (f (64 + i))] = some [.int .u16 (f (64 + i))] := by
  rw [rc_hi (by omega)]
  simp [Program.keyLits, Try.underlying88, (wfR h hi).2]
/-- Each row is a key. -/
theorem keyR {f : Nat → Int} (h : FitR f) : ∃ kl, keyOf Try.prog 91 (.agg (rowC f).toArray) = some kl := by
  have hk : Try.prog.keyType 91 = true := by kernel_rfl
  have c1 : Try.prog.cellsOf 91 = 128 := by kernel_rfl
  have c2 : Try.prog.cellsOf 87 = 64 := by kernel_rfl
  have c3 : Try.prog.cellsOf 89 = 64 := by kernel_rfl
  have c4 : Try.prog.cellsOf 5 = 1 := by kernel_rfl
  have c5 : Try.prog.cellsOf 88 = 1 := by kernel_rfl
  have hsz : ∃ d, Try.prog.types.size + 1 = d + 1 + 1 + 1 := ⟨Try.prog.types.size - 2, by have : 2 ≤ Try.prog.types.size := of_decide_eq_true (by kernel_rfl); omega⟩
  obtain ⟨d, hd⟩ := hsz
  have hf : (Value.agg (rowC f).toArray).formed Try.prog 91 = true := by
    simp [Value.formed, Try.underlying91, c1, rowC_len]
  have k1 : Try.prog.keyLits (d + 1 + 1) 87 ((rowC f).take 64) = some (((List.range 64).map fun i => [Lit.int .u8 (f i)]).flatten) := by
    unfold Program.keyLits
    simp only [Try.underlying87]
    have hl : ((rowC f).take 64).length = 64 := by rw [List.length_take, rowC_len]; rfl
    simp only [c2, c4, hl, if_true]
    rw [mapM_all (g := fun i => [Lit.int .u8 (f i)])]
    · rfl
    · intro i hi
      have hi' := List.mem_range.1 hi
      rw [Nat.mul_one, drop_take_one (v := rc i (f i)) (by rw [List.getElem?_take_of_lt hi', rowC_get _ (by omega)])]
      exact lits8 h hi'
  have k2 : Try.prog.keyLits (d + 1 + 1) 89 (((rowC f).drop 64).take 64) = some (((List.range 64).map fun i => [Lit.int .u16 (f (64 + i))]).flatten) := by
    unfold Program.keyLits
    simp only [Try.underlying89]
    have hl : (((rowC f).drop 64).take 64).length = 64 := by rw [List.length_take, List.length_drop, rowC_len]; rfl
    simp only [c3, c5, hl, if_true]
    rw [mapM_all (g := fun i => [Lit.int .u16 (f (64 + i))])]
    · rfl
    · intro i hi
      have hi' := List.mem_range.1 hi
      rw [Nat.mul_one, drop_take_one (v := rc (64 + i) (f (64 + i))) (by rw [List.getElem?_take_of_lt hi', List.getElem?_drop, rowC_get _ (by omega)])]
      exact lits16 h hi'
  have k3 : ∃ ls, Try.prog.keyLits (d + 1 + 1 + 1) 91 (rowC f) = some ls := by
    refine ⟨[((List.range 64).map fun i => [Lit.int .u8 (f i)]).flatten, ((List.range 64).map fun i => [Lit.int .u16 (f (64 + i))]).flatten].flatten, ?_⟩
    unfold Program.keyLits
    simp only [Try.underlying91]
    simp [c1, c2, c3, rowC_len, k1, k2]
  obtain ⟨ls, hls⟩ := k3
  refine ⟨.string (keyBytes ls), ?_⟩
  unfold keyOf
  rw [Try.underlying91]
  simp only [hk, hf, Bool.and_self, if_true, hd, Value.cells, hls, Option.map_some]

/-- A row's key. -/
noncomputable def kyR (f : Nat → Int) : Lit := (keyOf Try.prog 91 (.agg (rowC f).toArray)).getD (.bool false)
theorem kyR_of {f : Nat → Int} (h : FitR f) : keyOf Try.prog 91 (.agg (rowC f).toArray) = some (kyR f) := by
  obtain ⟨kl, e⟩ := keyR h
  unfold kyR; rw [e]; rfl
/-- Two rows are one key just where they are the same. -/
theorem kyR_iff {f g : Nat → Int} (hf : FitR f) (hg : FitR g) : kyR f = kyR g ↔ rowC f = rowC g := by
  constructor
  · intro e
    have h1 := kyR_of hf
    rw [e] at h1
    have h2 := keyedR.inj h1 (kyR_of hg)
    injection h2 with h3
    exact List.toArray_inj h3
  · intro e; unfold kyR; rw [e]
theorem kyR_lit {f : Nat → Int} (h : FitR f) : WideAt.IsKeyLit (kyR f) := keyedR.key (kyR_of h)

/-- Whether two states have the same row. -/
def eqR (F : Nat → Nat → Int) (s t : Nat) : Bool := (List.range 128).all fun i => F s i == F t i
theorem eqR_iff {F : Nat → Nat → Int} {s t : Nat} : eqR F s t = true ↔ ∀ i, i < 128 → F s i = F t i := by
  unfold eqR
  rw [List.all_eq_true]
  exact ⟨fun h i hi => by simpa using h i (List.mem_range.2 hi), fun h i hi => by simpa using h i (List.mem_range.1 hi)⟩
theorem eqR_row {F : Nat → Nat → Int} {s t : Nat} : eqR F s t = true ↔ rowC (F s) = rowC (F t) := by rw [eqR_iff, rowC_iff]
theorem eqR_eqv (F : Nat → Nat → Int) (N : Nat) : Eqv (eqR F) N :=
  ⟨fun _ _ => eqR_iff.2 fun _ _ => rfl, fun _ _ _ _ h => eqR_iff.2 fun i hi => (eqR_iff.1 h i hi).symm, fun _ _ _ _ _ _ h g => eqR_iff.2 fun i hi => (eqR_iff.1 h i hi).trans (eqR_iff.1 g i hi)⟩
/-- The map of the rows of the first s states. -/
noncomputable def mpR (F : Nat → Nat → Int) : Nat → DataW Unit
  | 0 => .map []
  | s + 1 => if first (eqR F s) s = none then (mpR F s).put (kyR (F s)) (.lit (.int .i64 (nc (eqR F) s : Nat))) else mpR F s
/-- What it says of a row. -/
theorem mpR_says {F : Nat → Nat → Int} {N : Nat} (hF : ∀ s, s < N → FitR (F s)) : ∀ (s : Nat), s ≤ N → Tidy (mpR F s) ∧ Maps.size (mpR F s) = nc (eqR F) s ∧
    ∀ t, t < N → (Maps.has (mpR F s) (kyR (F t)) = (first (eqR F t) s).isSome) ∧ ∀ r, first (eqR F t) s = some r → (mpR F s).atKey (kyR (F t)) (.lit (.int .i64 0)) = .lit (.int .i64 (cl (eqR F) r))
  | 0, _ => ⟨tidy_empty, rfl, fun t _ => ⟨rfl, fun r h => by cases h⟩⟩
  | s + 1, hs => by
    obtain ⟨h1, h2, h3⟩ := mpR_says hF s (by omega)
    have E := eqR_eqv F N
    by_cases c : first (eqR F s) s = none
    · have e : mpR F (s + 1) = (mpR F s).put (kyR (F s)) (.lit (.int .i64 (nc (eqR F) s : Nat))) := by show (if _ then _ else _) = _; rw [if_pos c]
      have hlit := kyR_lit (hF s (by omega))
      have hno : Maps.has (mpR F s) (kyR (F s)) = false := by rw [(h3 s (by omega)).1, c]; rfl
      have en : nc (eqR F) (s + 1) = nc (eqR F) s + 1 := by show nc (eqR F) s + _ = _; rw [if_pos c]
      refine ⟨by rw [e]; exact h1.put hlit _, by rw [e, size_put h1, hno, h2, en]; rfl, fun t ht => ?_⟩
      by_cases d : eqR F t s = true
      · have ek : kyR (F t) = kyR (F s) := (kyR_iff (hF t ht) (hF s (by omega))).2 (eqR_row.1 d)
        have hn : ∀ j, j < s → eqR F t j = false := fun j hj => by
          cases x : eqR F t j
          · rfl
          · have h5 := E.trans s t j (by omega) ht (by omega) (E.symm t s ht (by omega) d) x
            have h6 := first_none2 c j hj
            rw [h5] at h6; cases h6
        have hf : first (eqR F t) (s + 1) = some s := first_some (by omega) d hn
        rw [e, ek, hf, has_put_same h1.isMap hlit]
        refine ⟨rfl, fun r hr => ?_⟩
        cases hr
        rw [atKey_put_same h1.isMap hlit, cl_none c]
      · have ek : kyR (F t) ≠ kyR (F s) := fun x => d (eqR_row.2 ((kyR_iff (hF t ht) (hF s (by omega))).1 x))
        have hf : first (eqR F t) (s + 1) = first (eqR F t) s := first_skip (by simpa using d)
        rw [e, hf, has_put_other ek, atKey_put_other ek]
        exact h3 t ht
    · have e : mpR F (s + 1) = mpR F s := by show (if _ then _ else _) = _; rw [if_neg c]
      have en : nc (eqR F) (s + 1) = nc (eqR F) s := by show nc (eqR F) s + _ = _; rw [if_neg c]; rfl
      refine ⟨by rw [e]; exact h1, by rw [e, h2, en], fun t ht => ?_⟩
      rw [e]
      have hf : first (eqR F t) (s + 1) = first (eqR F t) s := by
        cases d : eqR F t s
        · exact first_skip d
        · rcases first_cases (eqR F s) s with ⟨x, _⟩ | ⟨q, x, hq, hp, hl⟩
          · exact absurd x c
          · have hpt : eqR F t q = true := E.trans t s q ht (by omega) (by omega) d hp
            rcases first_cases (eqR F t) s with ⟨y, hy⟩ | ⟨r, y, hr, hr1, hr2⟩
            · rw [hy q hq] at hpt; cases hpt
            · rw [y]; exact first_some (by omega) hr1 hr2
      rw [hf]
      exact h3 t ht

end Go.Proofs.Ytoiogggibfmncaa

/-
  What the program's grouped returns: the classes of states with the same row.
-/
namespace Go.Proofs.Ytoiogggibfmncaa
open Go.RowKit Go.Maps

/-- What holds after s states. -/
structure GInv (F : Nat → Nat → Int) (n : Nat) (w wr : World) (s : Nat) : Prop where
  mp : wr.ownsMap Try.prog 91 (plainElem Try.prog 3) w.heap.size s (mpR F s)
  cs : Own wr (w.heap.size + 1) (.slice (some ⟨w.heap.size + 1, 0, none⟩) n n) n (fun i => if i < s then cl (eqR F) i else 0)
  bl : Below w.heap.size w wr
theorem cl_own {w : World} {B : Nat} {v : Value} {R : Nat → Nat → Bool} {n : Nat} (h : Own w B v n (fun i => if i < n then cl R i else 0)) : OwnL .i64 3 w B v (clL R n) := by
  refine list_of_own ?_
  rw [clL_len]
  exact h.congr fun i hi => by rw [if_pos hi, cl_at R hi]
theorem setF_next {R : Nat → Nat → Bool} {s : Nat} {x : Int} (h : x = cl R s) (i : Nat) : setF s x (fun i => if i < s then cl R i else 0) i = if i < s + 1 then cl R i else 0 := by
  unfold setF
  by_cases e : i = s
  · subst e; rw [if_pos rfl, if_pos (by omega), h]
  · rw [if_neg e]
    show (if i < s then cl R i else 0) = _
    by_cases c : i < s
    · rw [if_pos c, if_pos (by omega)]
    · rw [if_neg c, if_neg (by omega)]
theorem GInv.kept {F : Nat → Nat → Int} {n : Nat} {w wr w2 : World} {s : Nat} (h : GInv F n w wr s) {o : Obj} (hg : (wr.alloc o).grownBy w2 (some w.heap.size)) : Own w2 (w.heap.size + 1) (.slice (some ⟨w.heap.size + 1, 0, none⟩) n n) n (fun i => if i < s then cl (eqR F) i else 0) := by
  have hlt := World.ownsRow.lt h.cs _ rfl
  have k : ∀ j, j < wr.heap.size → j ≠ w.heap.size → w2.heap[j]? = wr.heap[j]? := fun j hj hne => by
    rw [hg.block j (by simp; omega) (fun e => hne (Option.some.inj e)), Below.heap_alloc _ _ _ hj]
  refine ⟨h.cs.1, ?_⟩
  rcases h.cs.2 with h2 | ⟨g, cap, cur, e, hgb, hcell, rest⟩
  · exact .inl h2
  · refine .inr ⟨g, cap, cur, e, hgb, ?_, rest⟩
    cases e
    rw [k _ hlt.2 (by omega)]; exact hcell
theorem GInv.cell {F : Nat → Nat → Int} {n : Nat} {w wr w2 : World} {s : Nat} (h : GInv F n w wr s) (hs : s < n) {o : Obj} (hg : (wr.alloc o).grownBy w2 (some w.heap.size)) : w2.cell? ⟨w.heap.size + 1, s, none⟩ = some (.int .i64 0) ∧ w2.frozen? ⟨w.heap.size + 1, s, none⟩ = false := by
  obtain ⟨g, cap, e, _, _, _, _, hc, hf⟩ := (h.kept hg).pos (by omega)
  cases e
  have := hc s hs
  rw [if_neg (by omega)] at this
  exact ⟨this, hf s⟩
/-- The round's end: a variable is made, the map is written or not (w2), the class is told. -/
theorem GInv.next {F : Nat → Nat → Int} {n : Nat} {w wr w2 : World} {s : Nat} (h : GInv F n w wr s) {o : Obj} (hg : (wr.alloc o).grownBy w2 (some w.heap.size)) (hm : w2.ownsMap Try.prog 91 (plainElem Try.prog 3) w.heap.size (s + 1) (mpR F (s + 1))) {x : Int} (hx : x = cl (eqR F) s) :
    GInv F n w (w2.setCell ⟨w.heap.size + 1, s, none⟩ (.int .i64 x)) (s + 1) := by
  have cs2 := h.kept hg
  refine ⟨hm.setCell (by simp) _, (cs2.store s x).congr fun i _ => setF_next hx i, ?_⟩
  have b2 : Below w.heap.size w w2 := (h.bl.alloc h.bl.size o).grown hg (by have := h.bl.size; simp; omega) fun k e => by cases e; exact Nat.le_refl _
  exact b2.setCell (p := ⟨w.heap.size + 1, s, none⟩) (by simp) _

theorem zeroI (w : World) : (zeroValue 3).run Try.prog w = .ok (.int .i64 0) w := by kernel_rfl
theorem range_new (w : World) (f : Nat → Int) (t : TypeId) : (w.alloc (.cells (rowC f).toArray t)).rangeAt w.heap.size 0 (rowC f) := fun j v hv => by
  rw [Nat.zero_add, cell_of_row _ _ j _ t (0, 0) (heap_alloc_new w _)]
  simpa using hv

set_option maxRecDepth 100000 in
set_option maxHeartbeats 1000000 in
theorem grouped_any (g c n : Nat) (F : Nat → Nat → Int) (w : World) (hR : RowsAt w g n F) (hF : ∀ s, s < n → FitR (F s)) (h0 : 0 < n) (h1 : n ≤ 1024) (hg : g < w.heap.size) :
    Calls Try.prog 40 #[.slice (some ⟨g, 0, none⟩) n c] w fun e w' => ∃ v, e = .returned v ∧ OwnL .i64 3 w' w.heap.size v (clL (eqR F) n) ∧ Below w.heap.size w w' := by
  have hmm := @run_makeMap Try.prog
  have M0 := World.ownsMap_made w Try.prog 91 (plainElem (H := Unit) Try.prog 3)
  have HM0 := hide M0
  have HF := hide hF
  clear M0 hF
  go_enter Try.func40, Try.ntmps40
  go_wp2_with (at_make; refine wpl_make rfl (.tmp 11) (.tmp 11) rfl (w.heap.size + 1) _ _ n rfl rfl rfl rfl (by omega) (by simp) ?_; intro w1 hown1 hb1 hg1)
  have I0 : GInv F n w w1 0 := by
    refine ⟨(unhide HM0).kept hg1 (by simp), ?_, (ballo w _).trans (hb1.mono (by omega))⟩
    have e : (w.alloc (.map #[] 0)).heap.size = w.heap.size + 1 := by simp
    rw [e] at hown1
    exact hown1.congr fun i _ => by simp
  have HI0 := hide I0
  clear I0 hown1 hg1 HM0 hmm hb1
  go_loopw [15] (fun a wr => ∃ s : Nat, s ≤ n ∧ a = .int .i64 s ∧ GInv F n w wr s) (fun a _ => n - (intOf a).toNat)
  case atStart => exact ⟨0, Nat.zero_le _, rfl, unhide HI0⟩
  case round =>
    obtain ⟨s, hs, rfl, hinv⟩ := hrel
    clear HI0
    have HI := hide hinv
    by_cases hlt : s < n
    · have hlt' : (s : Int) < (n : Int) := by omega
      have hR2 := hR.keep (hinv.bl.block g hg)
      have hr := hR2.range hlt
      have hzr := hinv.bl.size
      have mp := hinv.mp
      have mp1 := mp.alloc (.cells (rowC (F s)).toArray 91)
      obtain ⟨ht, hsz, hsay⟩ := mpR_says (unhide HF) s hs
      obtain ⟨hhas, hat⟩ := hsay s hlt
      have hkey := kyR_of (unhide HF s hlt)
      have hnew := range_new wr (F s) 91
      clear hinv hR2 mp hsay
      have HK := hide hkey
      rcases first_cases (eqR F s) s with ⟨hno, hl⟩ | ⟨r, hyes, hr1, hr2, hr3⟩
      · have th : Maps.has (mpR F s) (kyR (F s)) = false := by rw [hhas, hno]; rfl
        have HX : Hid (((Maps.size (mpR F s) : Nat) : Int) = cl (eqR F) s) := by show _ = _; rw [hsz, cl_none hno]
        have HP : Hid (mpR F (s + 1) = (mpR F s).put (kyR (F s)) (.lit (.int .i64 (Maps.size (mpR F s) : Nat)))) := by show (if _ then _ else _) = _; rw [if_pos hno, hsz]
        have hle : Maps.size (mpR F s) ≤ 1024 := by rw [hsz]; have := nc_le (eqR F) s; omega
        obtain ⟨z, hz⟩ : ∃ z, z = Maps.size (mpR F s) := ⟨_, rfl⟩
        have HZ := hide hz
        rw [← hz] at hle
        clear hhas hat hsz ht hno hl hz
        go_wp2_with (first | (with_reducible refine atR_load (.tmp 18) ?_; refine wplR_load rfl (.tmp 18) rfl g (s * 128) (F s) rfl hr ?_) | (with_reducible refine atR_alloc ?_; refine wplR_alloc rfl rfl ?_) | (with_reducible refine atR_store (.tmp 6) (.tmp 19) ?_; refine wplR_store rfl (.tmp 6) (.tmp 19) rfl (fun _ => 0) (F s) wr rfl rfl rfl ?_) | (with_reducible refine atR_load (.tmp 6) ?_; refine wplR_load rfl (.tmp 6) rfl wr.heap.size 0 (F s) rfl hnew ?_) | (at_lookup; refine wpList_lookup_own_ok_int _ rfl (.tmp 21) (.tmp 22) 86 rfl 91 3 .i64 keyedR Try.underlying86 Try.underlying3 (zeroI _) w.heap.size s (mpR F s) rfl mp1 _ (kyR (F s)) rfl (unhide HK) ?_; intro c0 hc0 hwc0; rw [th]) | (at_len; refine wpList_len_own _ rfl (.tmp 28) 86 rfl 91 3 Try.underlying86 (plainElem Try.prog 3) w.heap.size s (mpR F s) rfl mp1 ?_; rw [← unhide HZ]) | (with_reducible refine atR_load (.tmp 6) ?_; refine wplR_load rfl (.tmp 6) rfl wr.heap.size 0 (F s) rfl hnew ?_) | (at_mapUpdate; refine wpList_mapUpdate_own _ rfl (.tmp 30) (.tmp 31) (.tmp 32) 86 rfl 91 3 keyedR Try.underlying86 (plainElem Try.prog 3) w.heap.size s (mpR F s) rfl mp1 (by unfold maxLen; omega) _ _ (kyR (F s)) rfl rfl (unhide HK) _ [] (plainElem_int Try.underlying3 (WalkArith.wf_i64 (by omega))) ?_; intro w2 hown2 hg2; obtain ⟨kc, kf⟩ := (unhide HI).cell hlt hg2))
        go_roundw
        case rel => exact ⟨s + 1, by omega, by go_num, (unhide HI).next hg2 (by rw [unhide HP, ← unhide HZ]; exact hown2) (by rw [unhide HZ]; exact unhide HX)⟩
        case measure => simp [intOf]; omega
      · have th : Maps.has (mpR F s) (kyR (F s)) = true := by rw [hhas, hyes]; rfl
        have HX : Hid (cl (eqR F) r = cl (eqR F) s) := by show _ = _; rw [cl_some hyes hr1]
        have HP : Hid (mpR F (s + 1) = mpR F s) := by show (if _ then _ else _) = _; rw [if_neg (by rw [hyes]; simp)]
        have hat := hat r hyes
        obtain ⟨kc, kf⟩ := (unhide HI).cell hlt (o := .cells (rowC (F s)).toArray 91) (World.grownBy.refl _ _)
        clear hhas hsz ht hyes hr1 hr2 hr3
        go_wp2_with (first | (with_reducible refine atR_load (.tmp 18) ?_; refine wplR_load rfl (.tmp 18) rfl g (s * 128) (F s) rfl hr ?_) | (with_reducible refine atR_alloc ?_; refine wplR_alloc rfl rfl ?_) | (with_reducible refine atR_store (.tmp 6) (.tmp 19) ?_; refine wplR_store rfl (.tmp 6) (.tmp 19) rfl (fun _ => 0) (F s) wr rfl rfl rfl ?_) | (with_reducible refine atR_load (.tmp 6) ?_; refine wplR_load rfl (.tmp 6) rfl wr.heap.size 0 (F s) rfl hnew ?_) | (at_lookup; refine wpList_lookup_own_ok_int _ rfl (.tmp 21) (.tmp 22) 86 rfl 91 3 .i64 keyedR Try.underlying86 Try.underlying3 (zeroI _) w.heap.size s (mpR F s) rfl mp1 _ (kyR (F s)) rfl (unhide HK) ?_; intro c0 hc0 hwc0; rw [hat] at hc0; cases hc0; rw [th]))
        go_roundw
        case rel => exact ⟨s + 1, by omega, by go_num, (unhide HI).next (World.grownBy.refl _ _) (by rw [unhide HP]; exact mp1.mono (by omega)) (unhide HX)⟩
        case measure => simp [intOf]; omega
    · have he : s = n := by omega
      subst he
      go_wp2
      go_ret
      exact ⟨_, rfl, (cl_own hinv.cs).mono (by omega), hinv.bl⟩

end Go.Proofs.Ytoiogggibfmncaa
