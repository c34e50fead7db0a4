/-
  What the program's holds, span and swap do.
-/
import Derived.Test.YtnakadlhafggkaaQPart
import Derived.BigRegion
namespace Go.Proofs.Ytnakadlhafggkaa
open Go.RowKit

section
variable {w : World} {p : Pp} {gs cap K : Nat} {R P C : List Int} {F : Nat → Nat → Int}
theorem holds_any (h : PtAt w p gs cap K R P C F) (i : Int) :
    Calls Try.prog 30 #[.pointer (some ⟨p.b, 0, none⟩), .int .i64 i] w fun e w' => e = .returned (.bool (decide (0 ≤ i ∧ i < (p.n : Int)))) ∧ w' = w := by
  have c0 := h.c0
  clear h
  by_cases h0 : 0 ≤ i
  · by_cases h1 : i < (p.n : Int)
    · have H := hide (decide_eq_true (show 0 ≤ i ∧ i < (p.n : Int) from ⟨h0, h1⟩))
      go_enter Try.func30, Try.ntmps30
      go_wp2
      go_ret
      exact ⟨ret_bool (by first | exact (unhide H).symm | (simp; omega)), rfl⟩
    · have H := hide (decide_eq_false (show ¬ (0 ≤ i ∧ i < (p.n : Int)) by omega))
      go_enter Try.func30, Try.ntmps30
      go_wp2
      go_ret
      exact ⟨ret_bool (by first | exact (unhide H).symm | (simp; omega)), rfl⟩
  · have H := hide (decide_eq_false (show ¬ (0 ≤ i ∧ i < (p.n : Int)) by omega))
    go_enter Try.func30, Try.ntmps30
    go_wp2
    go_ret
    exact ⟨ret_bool (by first | exact (unhide H).symm | (simp; omega)), rfl⟩

theorem span_any (h : PtAt w p gs cap K R P C F) {c x y : Nat} (hc : c < K) (hx : F c 0 = (x : Int)) (hy : F c 1 = (y : Int)) (hxy : x < y) (hyn : y ≤ p.n) :
    Calls Try.prog 36 #[.pointer (some ⟨p.b, 0, none⟩), .int .i64 (c : Nat)] w fun e w' => e = .returned (.slice (some ⟨p.gr, x, none⟩) (y - x) (p.n - x)) ∧ ∃ m, w' = w.drewN m := by
  have c0 := h.c0
  have c3 := h.c3
  have s0 := (h.spn hc (i := 0) (by omega)).1
  have s1 := (h.spn hc (i := 1) (by omega)).1
  rw [hx] at s0
  rw [hy] at s1
  simp only [Nat.add_zero] at s0
  clear h hx hy
  go_enter Try.func36, Try.ntmps36
  go_wp2
  go_quiet (fail)
  go_wp2
  go_ret
  exact ⟨rfl, _, rfl⟩

theorem sw_a {R : List Int} {a b : Nat} {x y : Int} (ha : a < R.length) (h : a = b → x = y) : ((R.set a y).set b x).getD a 0 = y := by
  by_cases e : b = a
  · subst e; simp [List.getD, ha]; exact h rfl
  · simp [List.getD, e, ha]
theorem sw_b {R : List Int} {a b : Nat} {x y : Int} (hb : b < R.length) : ((R.set a y).set b x).getD b 0 = x := by simp [List.getD, hb]

set_option maxHeartbeats 4000000 in
theorem swap_any (h : PtAt w p gs cap K R P C F) {a b x y : Nat} (ha : a < p.n) (hb : b < p.n) (hx : R.getD a 0 = (x : Int)) (hy : R.getD b 0 = (y : Int)) (xn : x < p.n) (yn : y < p.n) (hne : a ≠ b → x ≠ y) :
    Calls Try.prog 57 #[.pointer (some ⟨p.b, 0, none⟩), .int .i64 (a : Nat), .int .i64 (b : Nat)] w fun e w' => e = .returned (.tuple #[]) ∧ PtAt w' p gs cap K ((R.set a (y : Nat)).set b (x : Nat)) ((P.set y (a : Nat)).set x (b : Nat)) C F ∧ Bx (p.has gs) w w' := by
  have c0 := h.c0
  obtain ⟨ra, fa⟩ := h.row ha
  obtain ⟨rb, fb⟩ := h.row hb
  rw [hx] at ra
  rw [hy] at rb
  have HX := hide hx
  have HY := hide hy
  have H := hide h
  clear h hx hy
  by_cases e : a = b
  · subst e
    have exy : x = y := by have := unhide HX; have := unhide HY; omega
    subst exy
    clear hne HX HY
    go_enter Try.func57, Try.ntmps57
    go_wp2
    go_big_region
    obtain ⟨w1, hw1⟩ : ∃ w1, ((w.setCell ⟨p.gr, a, none⟩ (.int .i64 (x : Nat))).setCell ⟨p.gr, a, none⟩ (.int .i64 (x : Nat))).drew = w1 := ⟨_, rfl⟩
    rw [hw1]
    have H1 : PtAt w1 p gs cap K ((R.set a (x : Nat)).set a (x : Nat)) P C F := by rw [← hw1]; exact (((unhide H).storeR a (x : Nat)).storeR a (x : Nat)).keep fun _ _ => rfl
    have B1 : Bx (p.has gs) w w1 := by rw [← hw1]; exact (((Bx.refl _ w).setCell (p := ⟨p.gr, a, none⟩) (.inr (.inl rfl)) _).setCell (p := ⟨p.gr, a, none⟩) (.inr (.inl rfl)) _).drew
    have d0 := H1.c0
    have d1 := H1.c1
    have ra1 := (H1.row ha).1
    have rb1 := (H1.row hb).1
    rw [show ((R.set a (x : Nat)).set a (x : Nat)).getD a 0 = ((x : Nat) : Int) from sw_a (by rw [(unhide H).lr]; exact ha) (by omega)] at ra1
    rw [show ((R.set a (x : Nat)).set a (x : Nat)).getD a 0 = ((x : Nat) : Int) from sw_b (by rw [(unhide H).lr]; exact hb)] at rb1
    obtain ⟨px, fx⟩ := H1.plc xn
    obtain ⟨py, fy⟩ := H1.plc yn
    have HH1 := hide H1
    clear hw1 c0 ra fa rb fb H1
    go_wp2
    go_big_region
    go_wp2
    go_end0
    refine ⟨rfl, ?_, ?_⟩
    · exact (((unhide HH1).storeP x (a : Nat)).storeP x (a : Nat)).keep fun _ _ => rfl
    · exact ((B1.setCell (p := ⟨p.gp, x, none⟩) (.inr (.inr (.inl rfl))) _).setCell (p := ⟨p.gp, x, none⟩) (.inr (.inr (.inl rfl))) _).drew
  have hxy := hne e
  clear hne HX HY
  rcases Nat.lt_or_gt_of_ne e with e | e
  · rcases Nat.lt_or_gt_of_ne hxy with f | f
    · clear hxy
      go_enter Try.func57, Try.ntmps57
      go_wp2
      go_big_region
      obtain ⟨w1, hw1⟩ : ∃ w1, ((w.setCell ⟨p.gr, a, none⟩ (.int .i64 (y : Nat))).setCell ⟨p.gr, b, none⟩ (.int .i64 (x : Nat))).drew = w1 := ⟨_, rfl⟩
      rw [hw1]
      have H1 : PtAt w1 p gs cap K ((R.set a (y : Nat)).set b (x : Nat)) P C F := by rw [← hw1]; exact (((unhide H).storeR a (y : Nat)).storeR b (x : Nat)).keep fun _ _ => rfl
      have B1 : Bx (p.has gs) w w1 := by rw [← hw1]; exact (((Bx.refl _ w).setCell (p := ⟨p.gr, a, none⟩) (.inr (.inl rfl)) _).setCell (p := ⟨p.gr, b, none⟩) (.inr (.inl rfl)) _).drew
      have d0 := H1.c0
      have d1 := H1.c1
      have ra1 := (H1.row ha).1
      have rb1 := (H1.row hb).1
      rw [show ((R.set a (y : Nat)).set b (x : Nat)).getD a 0 = ((y : Nat) : Int) from sw_a (by rw [(unhide H).lr]; exact ha) (by omega)] at ra1
      rw [show ((R.set a (y : Nat)).set b (x : Nat)).getD b 0 = ((x : Nat) : Int) from sw_b (by rw [(unhide H).lr]; exact hb)] at rb1
      obtain ⟨px, fx⟩ := H1.plc xn
      obtain ⟨py, fy⟩ := H1.plc yn
      have HH1 := hide H1
      clear hw1 c0 ra fa rb fb H1
      go_wp2
      go_big_region
      go_wp2
      go_end0
      refine ⟨rfl, ?_, ?_⟩
      · exact (((unhide HH1).storeP y (a : Nat)).storeP x (b : Nat)).keep fun _ _ => rfl
      · exact ((B1.setCell (p := ⟨p.gp, y, none⟩) (.inr (.inr (.inl rfl))) _).setCell (p := ⟨p.gp, x, none⟩) (.inr (.inr (.inl rfl))) _).drew
    · clear hxy
      go_enter Try.func57, Try.ntmps57
      go_wp2
      go_big_region
      obtain ⟨w1, hw1⟩ : ∃ w1, ((w.setCell ⟨p.gr, a, none⟩ (.int .i64 (y : Nat))).setCell ⟨p.gr, b, none⟩ (.int .i64 (x : Nat))).drew = w1 := ⟨_, rfl⟩
      rw [hw1]
      have H1 : PtAt w1 p gs cap K ((R.set a (y : Nat)).set b (x : Nat)) P C F := by rw [← hw1]; exact (((unhide H).storeR a (y : Nat)).storeR b (x : Nat)).keep fun _ _ => rfl
      have B1 : Bx (p.has gs) w w1 := by rw [← hw1]; exact (((Bx.refl _ w).setCell (p := ⟨p.gr, a, none⟩) (.inr (.inl rfl)) _).setCell (p := ⟨p.gr, b, none⟩) (.inr (.inl rfl)) _).drew
      have d0 := H1.c0
      have d1 := H1.c1
      have ra1 := (H1.row ha).1
      have rb1 := (H1.row hb).1
      rw [show ((R.set a (y : Nat)).set b (x : Nat)).getD a 0 = ((y : Nat) : Int) from sw_a (by rw [(unhide H).lr]; exact ha) (by omega)] at ra1
      rw [show ((R.set a (y : Nat)).set b (x : Nat)).getD b 0 = ((x : Nat) : Int) from sw_b (by rw [(unhide H).lr]; exact hb)] at rb1
      obtain ⟨px, fx⟩ := H1.plc xn
      obtain ⟨py, fy⟩ := H1.plc yn
      have HH1 := hide H1
      clear hw1 c0 ra fa rb fb H1
      go_wp2
      go_big_region
      go_wp2
      go_end0
      refine ⟨rfl, ?_, ?_⟩
      · exact (((unhide HH1).storeP y (a : Nat)).storeP x (b : Nat)).keep fun _ _ => rfl
      · exact ((B1.setCell (p := ⟨p.gp, y, none⟩) (.inr (.inr (.inl rfl))) _).setCell (p := ⟨p.gp, x, none⟩) (.inr (.inr (.inl rfl))) _).drew
  · rcases Nat.lt_or_gt_of_ne hxy with f | f
    · clear hxy
      go_enter Try.func57, Try.ntmps57
      go_wp2
      go_big_region
      obtain ⟨w1, hw1⟩ : ∃ w1, ((w.setCell ⟨p.gr, a, none⟩ (.int .i64 (y : Nat))).setCell ⟨p.gr, b, none⟩ (.int .i64 (x : Nat))).drew = w1 := ⟨_, rfl⟩
      rw [hw1]
      have H1 : PtAt w1 p gs cap K ((R.set a (y : Nat)).set b (x : Nat)) P C F := by rw [← hw1]; exact (((unhide H).storeR a (y : Nat)).storeR b (x : Nat)).keep fun _ _ => rfl
      have B1 : Bx (p.has gs) w w1 := by rw [← hw1]; exact (((Bx.refl _ w).setCell (p := ⟨p.gr, a, none⟩) (.inr (.inl rfl)) _).setCell (p := ⟨p.gr, b, none⟩) (.inr (.inl rfl)) _).drew
      have d0 := H1.c0
      have d1 := H1.c1
      have ra1 := (H1.row ha).1
      have rb1 := (H1.row hb).1
      rw [show ((R.set a (y : Nat)).set b (x : Nat)).getD a 0 = ((y : Nat) : Int) from sw_a (by rw [(unhide H).lr]; exact ha) (by omega)] at ra1
      rw [show ((R.set a (y : Nat)).set b (x : Nat)).getD b 0 = ((x : Nat) : Int) from sw_b (by rw [(unhide H).lr]; exact hb)] at rb1
      obtain ⟨px, fx⟩ := H1.plc xn
      obtain ⟨py, fy⟩ := H1.plc yn
      have HH1 := hide H1
      clear hw1 c0 ra fa rb fb H1
      go_wp2
      go_big_region
      go_wp2
      go_end0
      refine ⟨rfl, ?_, ?_⟩
      · exact (((unhide HH1).storeP y (a : Nat)).storeP x (b : Nat)).keep fun _ _ => rfl
      · exact ((B1.setCell (p := ⟨p.gp, y, none⟩) (.inr (.inr (.inl rfl))) _).setCell (p := ⟨p.gp, x, none⟩) (.inr (.inr (.inl rfl))) _).drew
    · clear hxy
      go_enter Try.func57, Try.ntmps57
      go_wp2
      go_big_region
      obtain ⟨w1, hw1⟩ : ∃ w1, ((w.setCell ⟨p.gr, a, none⟩ (.int .i64 (y : Nat))).setCell ⟨p.gr, b, none⟩ (.int .i64 (x : Nat))).drew = w1 := ⟨_, rfl⟩
      rw [hw1]
      have H1 : PtAt w1 p gs cap K ((R.set a (y : Nat)).set b (x : Nat)) P C F := by rw [← hw1]; exact (((unhide H).storeR a (y : Nat)).storeR b (x : Nat)).keep fun _ _ => rfl
      have B1 : Bx (p.has gs) w w1 := by rw [← hw1]; exact (((Bx.refl _ w).setCell (p := ⟨p.gr, a, none⟩) (.inr (.inl rfl)) _).setCell (p := ⟨p.gr, b, none⟩) (.inr (.inl rfl)) _).drew
      have d0 := H1.c0
      have d1 := H1.c1
      have ra1 := (H1.row ha).1
      have rb1 := (H1.row hb).1
      rw [show ((R.set a (y : Nat)).set b (x : Nat)).getD a 0 = ((y : Nat) : Int) from sw_a (by rw [(unhide H).lr]; exact ha) (by omega)] at ra1
      rw [show ((R.set a (y : Nat)).set b (x : Nat)).getD b 0 = ((x : Nat) : Int) from sw_b (by rw [(unhide H).lr]; exact hb)] at rb1
      obtain ⟨px, fx⟩ := H1.plc xn
      obtain ⟨py, fy⟩ := H1.plc yn
      have HH1 := hide H1
      clear hw1 c0 ra fa rb fb H1
      go_wp2
      go_big_region
      go_wp2
      go_end0
      refine ⟨rfl, ?_, ?_⟩
      · exact (((unhide HH1).storeP y (a : Nat)).storeP x (b : Nat)).keep fun _ _ => rfl
      · exact ((B1.setCell (p := ⟨p.gp, y, none⟩) (.inr (.inr (.inl rfl))) _).setCell (p := ⟨p.gp, x, none⟩) (.inr (.inr (.inl rfl))) _).drew
end
end Go.Proofs.Ytnakadlhafggkaa
