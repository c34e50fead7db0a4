/-
  What the program's firstPlaces returns: a map of each name to the place where it first stands.
-/
import Derived.Test.YtlgkoeolojkhgaaPlace
import Derived.Maps.OwnSet
namespace Go.Proofs.Ytlgkoeolojkhgaa
open Go.RowKit Go.Maps

/-- A number of 32 bits. -/
def Fit32 (x : Int) : Prop := (Lit.int .i32 x).wf = true
theorem fit32 {x : Int} (h1 : -2147483648 ≤ x) (h2 : x ≤ 2147483647) : Fit32 x := by
  have e1 : IntKind.i32.min = -2147483648 := rfl
  have e2 : IntKind.i32.max = 2147483647 := rfl
  simp only [Fit32, Lit.wf, Bool.and_eq_true, decide_eq_true_eq]
  omega
theorem fit32_inv {x : Int} (h : Fit32 x) : -2147483648 ≤ x ∧ x ≤ 2147483647 := by
  have e1 : IntKind.i32.min = -2147483648 := rfl
  have e2 : IntKind.i32.max = 2147483647 := rfl
  simp only [Fit32, Lit.wf, Bool.and_eq_true, decide_eq_true_eq] at h
  omega

theorem keyed32 : Keyed Try.prog 21 := int_keyed Try.underlying21
theorem zeroInt (w : World) : (zeroValue 3).run Try.prog w = .ok (.int .i64 0) w := Try.zeroValue3 w

theorem plc_snoc (r x : Int) : ∀ (l : List Int) (k : Nat), plc r (l ++ [x]) k = if 0 ≤ plc r l k then plc r l k else if x = r then ((k + l.length : Nat) : Int) else -1
  | [], k => by
    by_cases h : x = r
    · simp [plc, h]
    · simp [plc, h]
  | y :: l, k => by
    by_cases h : y = r
    · rw [List.cons_append, plc_cons_eq h, plc_cons_eq h, if_pos (by omega)]
    · rw [List.cons_append, plc_cons_ne h, plc_cons_ne h, plc_snoc r x l (k + 1)]
      simp only [List.length_cons]
      split
      · rfl
      · split
        · omega
        · rfl

/-- What the map says of each number. -/
def Says (D : DataW Unit) (l : List Int) : Prop :=
  ∀ r, Maps.has D (.int .i32 r) = decide (0 ≤ plc r l 0) ∧ (0 ≤ plc r l 0 → D.atKey (.int .i32 r) (.lit (.int .i64 0)) = .lit (.int .i64 (plc r l 0)))
/-- Block b is the map of the names' first places. -/
def PMap (w : World) (b : Nat) (l : List Int) : Prop :=
  ∃ (n : Nat) (D : DataW Unit), w.ownsMap Try.prog 21 (plainElem Try.prog 3) b n D ∧ n ≤ l.length ∧ Says D l

theorem lit_ne {r x : Int} (h : r ≠ x) : (Lit.int .i32 r) ≠ Lit.int .i32 x := by intro e; cases e; exact h rfl

theorem Says.old {D : DataW Unit} {l : List Int} {x : Int} (h : Says D l) (hx : 0 ≤ plc x l 0) : Says D (l ++ [x]) := by
  intro r
  obtain ⟨h1, h2⟩ := h r
  rw [plc_snoc]
  by_cases hr : 0 ≤ plc r l 0
  · rw [if_pos hr]; exact ⟨h1, h2⟩
  · rw [if_neg hr]
    by_cases e : x = r
    · subst e; exact absurd hx hr
    · rw [if_neg e, h1]
      exact ⟨by simp [hr], fun h => by omega⟩
theorem Says.new {D : DataW Unit} {l : List Int} {x : Int} (h : Says D l) (hx : ¬ 0 ≤ plc x l 0) (hD : IsMap D) (hk : WideAt.IsKeyLit (.int .i32 x)) :
    Says (D.put (.int .i32 x) (.lit (.int .i64 l.length))) (l ++ [x]) := by
  intro r
  obtain ⟨h1, h2⟩ := h r
  rw [plc_snoc]
  by_cases e : x = r
  · subst e
    rw [if_neg hx, if_pos rfl, has_put_same hD hk, atKey_put_same hD hk]
    refine ⟨by simp, fun _ => ?_⟩
    rw [Nat.zero_add]
  · rw [has_put_other (lit_ne (Ne.symm e)), atKey_put_other (lit_ne (Ne.symm e)), h1]
    by_cases hr : 0 ≤ plc r l 0
    · rw [if_pos hr]; exact ⟨rfl, h2⟩
    · rw [if_neg hr, if_neg e]
      exact ⟨by simp [hr], fun h => by omega⟩

theorem take_at' {l : List Int} {j : Nat} (h : j < l.length) : l.take (j + 1) = l.take j ++ [l.getD j 0] := by
  rw [List.take_add_one]; simp [h]

theorem firstPlaces_any (a : Option Addr) (c : Nat) (l : List Int) (w : World) (hr : RdL .i32 w a l) (hn : l.length < maxLen) (hf : ∀ j, j < l.length → Fit32 (l.getD j 0)) :
    Calls Try.prog 26 #[.slice a l.length c] w fun e w' => e = .returned (.map (some w.heap.size)) ∧ PMap w' w.heap.size l ∧ Below w.heap.size w w' := by
  unfold maxLen at hn
  have hmm := @run_makeMap Try.prog
  go_enter Try.func26, Try.ntmps26
  go_wp2
  go_loopw [11] (fun i wr => ∃ j : Nat, j ≤ l.length ∧ i = .int .i64 j ∧ PMap wr w.heap.size (l.take j) ∧ Below w.heap.size w wr) (fun i _ => l.length - (intOf i).toNat)
  case atStart => exact ⟨0, Nat.zero_le _, rfl, ⟨0, .map [], World.ownsMap_made _ _ _ _, Nat.zero_le _, fun r => ⟨rfl, fun h => by simp [plc] at h⟩⟩, (Below.refl _ _).alloc (Nat.le_refl _) _⟩
  case round =>
    obtain ⟨j, hj, rfl, ⟨n, D, hown, hnl, hsay⟩, hb⟩ := hrel
    by_cases hlt : j < l.length
    · obtain ⟨b, off, rfl, hc⟩ := (hr.below hb).at hlt
      have hcj := hc j hlt
      have hlt' : (j : Int) < (l.length : Int) := by omega
      have hfx := hf j hlt
      have HT := hide (take_at' hlt)
      have hlj : (l.take j).length = j := by rw [List.length_take]; omega
      clear hc
      generalize l.getD j 0 = x at *
      have hkey : keyOf Try.prog 21 (.int .i32 x) = some (.int .i32 x) := keyOf_int_mk Try.underlying21 hfx
      by_cases hx : 0 ≤ plc x (l.take j) 0
      · have hhas : Maps.has D (.int .i32 x) = true := by rw [(hsay x).1]; simpa using hx
        have HX := hide hx
        clear hx
        go_wp2_with (first | (at_lookup; refine wpList_lookup_own_ok_int _ rfl _ _ 53 rfl 21 3 .i64 keyed32 Try.underlying53 Try.underlying3 (zeroInt _) w.heap.size n D rfl hown _ _ rfl hkey ?_; intro c0 hat hwc; rw [hhas]) | go_in)
        go_roundw
        case rel => exact ⟨j + 1, by omega, by go_num, ⟨n, D, hown, by simp only [List.length_take]; omega, by rw [unhide HT]; exact hsay.old (unhide HX)⟩, hb⟩
        case measure => simp [intOf]; omega
      · have hhas : Maps.has D (.int .i32 x) = false := by rw [(hsay x).1]; simpa using hx
        have HX := hide hx
        clear hx
        go_wp2_with (first | (at_lookup; refine wpList_lookup_own_ok_int _ rfl _ _ 53 rfl 21 3 .i64 keyed32 Try.underlying53 Try.underlying3 (zeroInt _) w.heap.size n D rfl hown _ _ rfl hkey ?_; intro c0 hat hwc; rw [hhas]) | (at_mapUpdate; refine wpList_mapUpdate_own _ rfl _ _ _ 53 rfl 21 3 keyed32 Try.underlying53 _ w.heap.size n D rfl hown (by unfold maxLen; omega) _ _ _ rfl rfl hkey _ [] (plainElem_int Try.underlying3 (WalkArith.wf_i64 (by omega))) ?_; intro w1 hown1 hgrow1) | go_in)
        go_roundw
        case rel =>
          refine ⟨j + 1, by omega, by go_num, ⟨n + 1, _, hown1, by simp only [List.length_take]; omega, ?_⟩, hb.grown hgrow1 hb.size (fun k hk => by cases hk; exact Nat.le_refl _)⟩
          rw [unhide HT]
          have := hsay.new (unhide HX) hown.isMap (keyed32.key hkey)
          rw [hlj] at this
          exact this
        case measure => simp [intOf]; omega
    · have he : j = l.length := by omega
      subst he
      go_wp2
      go_ret
      rw [List.take_length] at hnl hsay
      exact ⟨rfl, ⟨n, D, hown, hnl, hsay⟩, hb⟩

end Go.Proofs.Ytlgkoeolojkhgaa
