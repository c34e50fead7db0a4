/-
  What the program's firstPlaces returns: a map of each name to the place where it first stands.
-/
import Derived.Test.YtbhdcgebcmgidaaDoorPlace
import Derived.Maps.OwnSet
namespace Go.Proofs.YtbhdcgebcmgidaaDoor
open Go.RowKit Go.Maps

/-- A number of 32 bits. -/
def Fit32 (x : Int) : Prop := (Lit.int .i32 x).wf = true
theorem fit32 {x : Int} (h1 : -2147483648 ≤ x) (h2 : x ≤ 2147483647) : Fit32 x := by
  have e1 : IntKind.i32.min = -2147483648 := rfl
  have e2 : IntKind.i32.max = 2147483647 := rfl
  simp only [Fit32, Lit.wf, Bool.and_eq_true, decide_eq_true_eq]
  omega
theorem fit32_inv {x : Int} (h : Fit32 x) : -2147483648 ≤ x ∧ x ≤ 2147483647 := by
  have e1 : IntKind.i32.min = -2147483648 := rfl
  have e2 : IntKind.i32.max = 2147483647 := rfl
  simp only [Fit32, Lit.wf, Bool.and_eq_true, decide_eq_true_eq] at h
  omega

theorem keyed32 : Keyed Tryd.prog 21 := int_keyed Tryd.underlying21
theorem zeroIntR (w : World) : (zeroValue 3).run Tryd.prog w = .ok (.int .i64 0) w := Tryd.zeroValue3 w

theorem plc_snoc (r x : Int) : ∀ (l : List Int) (k : Nat), plc r (l ++ [x]) k = if 0 ≤ plc r l k then plc r l k else if x = r then ((k + l.length : Nat) : Int) else -1
  | [], k => by
    by_cases h : x = r
    · simp [plc, h]
    · simp [plc, h]
  | y :: l, k => by
    by_cases h : y = r
    · rw [List.cons_append, plc_cons_eq h, plc_cons_eq h, if_pos (by omega)]
    · rw [List.cons_append, plc_cons_ne h, plc_cons_ne h, plc_snoc r x l (k + 1)]
      simp only [List.length_cons]
      split
      · rfl
      · split
        · omega
        · rfl

/-- What the map says of each number. -/
def SaysR (D : DataW Unit) (l : List Int) : Prop :=
  ∀ r, Maps.has D (.int .i32 r) = decide (0 ≤ plc r l 0) ∧ (0 ≤ plc r l 0 → D.atKey (.int .i32 r) (.lit (.int .i64 0)) = .lit (.int .i64 (plc r l 0)))
/-- Block b is the map of the names' first places. -/
def PMap (w : World) (b : Nat) (l : List Int) : Prop :=
  ∃ (n : Nat) (D : DataW Unit), w.ownsMap Tryd.prog 21 (plainElem Tryd.prog 3) b n D ∧ n ≤ l.length ∧ SaysR D l

theorem lit_neR {r x : Int} (h : r ≠ x) : (Lit.int .i32 r) ≠ Lit.int .i32 x := by intro e; cases e; exact h rfl

theorem SaysR.old {D : DataW Unit} {l : List Int} {x : Int} (h : SaysR D l) (hx : 0 ≤ plc x l 0) : SaysR D (l ++ [x]) := by
  intro r
  obtain ⟨h1, h2⟩ := h r
  rw [plc_snoc]
  by_cases hr : 0 ≤ plc r l 0
  · rw [if_pos hr]; exact ⟨h1, h2⟩
  · rw [if_neg hr]
    by_cases e : x = r
    · subst e; exact absurd hx hr
    · rw [if_neg e, h1]
      exact ⟨by simp [hr], fun h => by omega⟩
theorem SaysR.new {D : DataW Unit} {l : List Int} {x : Int} (h : SaysR D l) (hx : ¬ 0 ≤ plc x l 0) (hD : IsMap D) (hk : WideAt.IsKeyLit (.int .i32 x)) :
    SaysR (D.put (.int .i32 x) (.lit (.int .i64 l.length))) (l ++ [x]) := by
  intro r
  obtain ⟨h1, h2⟩ := h r
  rw [plc_snoc]
  by_cases e : x = r
  · subst e
    rw [if_neg hx, if_pos rfl, has_put_same hD hk, atKey_put_same hD hk]
    refine ⟨by simp, fun _ => ?_⟩
    rw [Nat.zero_add]
  · rw [has_put_other (lit_neR (Ne.symm e)), atKey_put_other (lit_neR (Ne.symm e)), h1]
    by_cases hr : 0 ≤ plc r l 0
    · rw [if_pos hr]; exact ⟨rfl, h2⟩
    · rw [if_neg hr, if_neg e]
      exact ⟨by simp [hr], fun h => by omega⟩

theorem take_at' {l : List Int} {j : Nat} (h : j < l.length) : l.take (j + 1) = l.take j ++ [l.getD j 0] := by
  rw [List.take_add_one]; simp [h]

end Go.Proofs.YtbhdcgebcmgidaaDoor
