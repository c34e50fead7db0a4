/-
  The program's search in memory: its four cells; its three ways to ask; Ask, Found, Asked.
-/
import Derived.Deep.RegionHeld
import Derived.Test.YtaldjpjlggnhhaaUPnt
import Derived.Test.YtaldjpjlggnhhaaK19
import Derived.Test.YtaldjpjlggnhhaaK3
import Derived.Test.YtaldjpjlggnhhaaK27
import Derived.Test.YtaldjpjlggnhhaaHAs
import Derived.Test.YtaldjpjlggnhhaaLsts
namespace Go.Proofs.Ytaldjpjlggnhhaa
open Go.RowKit

/-- The way by which a search asks. -/
def wyV (s : Sc) : Value :=
  if s.how = 1 then .iface 61 (.agg #[])
  else if s.how = 3 ∧ s.no = false then .iface 64 (.agg #[.int .i64 (s.step : Int)])
  else .iface 62 (.agg #[])
def sxC (s : Sc) : List Value := [wyV s, .int .i64 (s.low : Int), .int .i64 (s.high : Int), .int .i64 (s.asked : Int)]
/-- The search s over 0 to n, at the block b. -/
structure Sx (n : Nat) (w : World) (b : Nat) (s : Sc) : Prop where
  o : Bk w b (sxC s) 57
  ok : ScOk n s
  le : n ≤ 4096
  hw : s.how = 1 ∨ s.how = 2 ∨ s.how = 3
  ms : s.most n
theorem Sx.below {n : Nat} {w w' : World} {b : Nat} {s : Sc} (h : Sx n w b s) (hb : Below w.heap.size w w') : Sx n w' b s := ⟨h.o.below hb, h.ok, h.le, h.hw, h.ms⟩
theorem Sx.blt {n : Nat} {w : World} {b : Nat} {s : Sc} (h : Sx n w b s) : b < w.heap.size := h.o.lt
/-- Where it was never told no, the step is small. -/
theorem Sx.step {n : Nat} {w : World} {b : Nat} {s : Sc} (h : Sx n w b s) (h3 : s.how = 3) (hn : s.no = false) : s.high ≠ s.low + 1 → s.step ≤ 4096 := fun he => by
  obtain ⟨h0, h1⟩ := (h.ms.2.2 h3).1 hn
  have h2 := h.ok.lt
  have h4 := h.le
  rcases h1 with ⟨h1, -⟩ | ⟨h1, h5⟩
  · omega
  · rw [h1]; have := h.ok.lt; omega
/-- The cells, one by one. -/
theorem Sx.cells {n : Nat} {w : World} {b : Nat} {s : Sc} (h : Sx n w b s) :
    w.cell? ⟨b, 0, none⟩ = some (wyV s) ∧ w.cell? ⟨b, 1, none⟩ = some (.int .i64 (s.low : Int)) ∧ w.cell? ⟨b, 2, none⟩ = some (.int .i64 (s.high : Int)) ∧ w.cell? ⟨b, 3, none⟩ = some (.int .i64 (s.asked : Int)) :=
  ⟨h.o.cell 0, h.o.cell 1, h.o.cell 2, h.o.cell 3⟩
theorem Sx.frz {n : Nat} {w : World} {b : Nat} {s : Sc} (h : Sx n w b s) (i : Nat) : w.frozen? ⟨b, i, none⟩ = false := by
  simp [World.frozen?, show w.heap[b]? = _ from h.o]

/-! ### The three ways -/
theorem methL (v : Value) (w : World) : (Go.method 183 61 v "tutor/point.place").run Try.prog w = .ok (52, v) w := by kernel_rfl
theorem methB (v : Value) (w : World) : (Go.method 183 62 v "tutor/point.place").run Try.prog w = .ok (53, v) w := by kernel_rfl
theorem methE (v : Value) (w : World) : (Go.method 183 64 v "tutor/point.place").run Try.prog w = .ok (54, v) w := by kernel_rfl

theorem placeL_any (l h : Nat) (w : World) (hl : l ≤ 4096) : Calls Try.prog 52 #[.agg #[], .int .i64 (l : Int), .int .i64 (h : Int)] w fun e w' => e = .returned (.int .i64 ((l + 1 : Nat) : Int)) ∧ Below w.heap.size w w' := by
  go_enter Try.func52, Try.ntmps52
  go_wp2
  go_ret
  exact ⟨by first | rfl | simp, ballo _ _⟩
theorem placeB_any (l h : Nat) (w : World) (hl : l < h) (hh : h ≤ 4096) : Calls Try.prog 53 #[.agg #[], .int .i64 (l : Int), .int .i64 (h : Int)] w fun e w' => e = .returned (.int .i64 (((l + h) / 2 : Nat) : Int)) ∧ Below w.heap.size w w' := by
  have hm : (((l + h) / 2 : Nat) : Int) = (l : Int) + ((h : Int) - (l : Int)) / 2 := by omega
  rw [hm]
  have h0 : (0 : Int) ≤ (h : Int) - (l : Int) := by omega
  have hq : ((h : Int) - (l : Int)).tdiv 2 = ((h : Int) - (l : Int)) / 2 := Int.tdiv_eq_ediv_of_nonneg h0
  have hb1 : 0 ≤ ((h : Int) - (l : Int)) / 2 := by omega
  have hb2 : ((h : Int) - (l : Int)) / 2 ≤ 4096 := by omega
  go_enter Try.func53, Try.ntmps53
  go_wp2
  go_ret
  exact ⟨by first | rfl | simp, ballo _ _⟩
theorem placeE_any (st l h : Nat) (w : World) (hs : st ≤ 8192) (hl : l < h) (hh : h ≤ 4096) : Calls Try.prog 54 #[.agg #[.int .i64 (st : Int)], .int .i64 (l : Int), .int .i64 (h : Int)] w fun e w' => e = .returned (.int .i64 ((if h - l ≤ st then l + 1 else h - st : Nat) : Int)) ∧ Below w.heap.size w w' := by
  by_cases c : h - l ≤ st
  · rw [if_pos c]
    have c2 : (h : Int) - (st : Int) ≤ (l : Int) := by omega
    rw [show ((l + 1 : Nat) : Int) = (l : Int) + 1 by omega]
    clear c
    go_enter Try.func54, Try.ntmps54
    go_wp2
    all_goals
      go_ret
      exact ⟨by first | rfl | (exfalso; omega), ballo _ _⟩
  · rw [if_neg c]
    have c2 : (l : Int) + 1 ≤ (h : Int) - (st : Int) := by omega
    rw [show ((h - st : Nat) : Int) = (h : Int) - (st : Int) by omega]
    clear c
    go_enter Try.func54, Try.ntmps54
    go_wp2
    all_goals
      go_ret
      exact ⟨by first | rfl | (exfalso; omega), ballo _ _⟩

/-! ### What may be asked of any search -/
theorem isMade_nil (w : World) : Calls Try.prog 29 #[.pointer none] w fun e w' => e = .returned (.bool false) ∧ w' = w := by
  go_enter Try.func29, Try.ntmps29
  go_wp2
  go_ret
  exact ⟨rfl, rfl⟩
theorem isMade_any {n : Nat} {w : World} {b : Nat} {s : Sc} (h : Sx n w b s) : Calls Try.prog 29 #[.pointer (some ⟨b, 0, none⟩)] w fun e w' => e = .returned (.bool true) ∧ w' = w := by
  obtain ⟨c0, -, -, -⟩ := h.cells
  unfold wyV at c0
  by_cases h1 : s.how = 1
  · rw [if_pos h1] at c0
    go_enter Try.func29, Try.ntmps29
    go_wp2
    go_ret
    exact ⟨rfl, rfl⟩
  rw [if_neg h1] at c0
  by_cases h2 : s.how = 3 ∧ s.no = false
  · rw [if_pos h2] at c0
    go_enter Try.func29, Try.ntmps29
    go_wp2
    go_ret
    exact ⟨rfl, rfl⟩
  · rw [if_neg h2] at c0
    go_enter Try.func29, Try.ntmps29
    go_wp2
    go_ret
    exact ⟨rfl, rfl⟩
theorem hasEnded_any {n : Nat} {w : World} {b : Nat} {s : Sc} (h : Sx n w b s) : Calls Try.prog 30 #[.pointer (some ⟨b, 0, none⟩)] w fun e w' => e = .returned (.bool (decide (s.high = s.low + 1))) ∧ ∃ q, w' = w.drewN q := by
  obtain ⟨-, c1, c2, -⟩ := h.cells
  have hk := h.ok.lt
  have hk2 := h.ok.le
  have hk3 := h.le
  have HD : Hid (decide (s.high = s.low + 1) = ((s.high : Int) == (s.low : Int) + 1)) := by
    show _ = _
    by_cases e : s.high = s.low + 1
    · rw [decide_eq_true e, e]; simp
    · rw [decide_eq_false e]; simp; omega
  go_enter Try.func30, Try.ntmps30
  go_wp2
  go_quiet (fail)
  go_wp2
  go_ret
  exact ⟨by rw [unhide HD]; rfl, _, rfl⟩
theorem asked_nil (w : World) : Calls Try.prog 15 #[.pointer none] w fun e w' => e = .returned (.int .i64 0) ∧ w' = w := by
  go_enter Try.func15, Try.ntmps15
  go_wp2
  go_ret
  exact ⟨rfl, rfl⟩
theorem asked_any {n : Nat} {w : World} {b : Nat} {s : Sc} (h : Sx n w b s) : Calls Try.prog 15 #[.pointer (some ⟨b, 0, none⟩)] w fun e w' => e = .returned (.int .i64 (s.asked : Int)) ∧ w' = w := by
  obtain ⟨-, -, -, c3⟩ := h.cells
  go_enter Try.func15, Try.ntmps15
  go_wp2
  go_ret
  exact ⟨rfl, rfl⟩
theorem found_nil (w : World) : Calls Try.prog 14 #[.pointer none] w fun e w' => e = .returned (.tuple #[.int .i64 0, .bool false]) ∧ w' = w := by
  go_enter Try.func14, Try.ntmps14
  go_wp2_with (go_at_call 29; refine (isMade_nil _).mono ?_; rintro e w1 ⟨rfl, rfl⟩)
  go_ret2
  exact ⟨rfl, rfl⟩
def fndV (s : Sc) : Value := if s.high = s.low + 1 then .tuple #[.int .i64 (s.low : Int), .bool true] else .tuple #[.int .i64 0, .bool false]
theorem found_any {n : Nat} {w : World} {b : Nat} {s : Sc} (h : Sx n w b s) : Calls Try.prog 14 #[.pointer (some ⟨b, 0, none⟩)] w fun e w' => e = .returned (fndV s) ∧ ∃ q, w' = w.drewN q := by
  obtain ⟨-, c1, -, -⟩ := h.cells
  have hm := isMade_any h
  have he := hasEnded_any h
  by_cases e : s.high = s.low + 1
  · have HF := hide (show fndV s = _ by unfold fndV; rw [if_pos e])
    rw [decide_eq_true e] at he
    clear e
    go_enter Try.func14, Try.ntmps14
    go_wp2_with (first | (go_at_call 29; refine hm.mono ?_; rintro e w1 ⟨rfl, rfl⟩) | (go_at_call 30; refine he.mono ?_; rintro e w2 ⟨rfl, q, rfl⟩))
    go_ret2
    exact ⟨by rw [unhide HF]; rfl, _, rfl⟩
  · have HF := hide (show fndV s = _ by unfold fndV; rw [if_neg e])
    rw [decide_eq_false e] at he
    clear e
    go_enter Try.func14, Try.ntmps14
    go_wp2_with (first | (go_at_call 29; refine hm.mono ?_; rintro e w1 ⟨rfl, rfl⟩) | (go_at_call 30; refine he.mono ?_; rintro e w2 ⟨rfl, q, rfl⟩))
    go_ret2
    exact ⟨by rw [unhide HF]; rfl, _, rfl⟩

end Go.Proofs.Ytaldjpjlggnhhaa
