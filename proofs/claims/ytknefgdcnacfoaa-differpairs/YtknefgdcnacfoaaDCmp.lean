/-
  What the closure of sortByPair returns: how two marks' pairs stand.
-/
import Derived.Test.YtknefgdcnacfoaaDSvO
import Derived.Test.YtknefgdcnacfoaaDLay
import Derived.Deep.RegionHeld
namespace Go.Proofs.Ytknefgdcnacfoaa
open Go.RowKit Go.Maps Go.Shelf

def cmI (a b : Int) : Int := if a < b then -1 else if b < a then 1 else 0
theorem isNaN_any (a : Int) (w : World) : Calls Try.prog 71 #[.int .i64 a] w fun e w' => e = .returned (.bool false) ∧ w' = w := by
  go_enter Try.func71, Try.ntmps71
  go_wp2
  go_ret
  first | exact ⟨rfl, rfl⟩ | simp
set_option maxRecDepth 100000 in
theorem compare_any (a b : Int) (w : World) : Calls Try.prog 57 #[.int .i64 a, .int .i64 b] w fun e w' => e = .returned (.int .i64 (cmI a b)) ∧ w' = w := by
  unfold cmI
  have HA := isNaN_any a w
  have HB := isNaN_any b w
  by_cases h1 : a < b
  · rw [if_pos h1]
    go_enter Try.func57, Try.ntmps57
    go_wp2_with fail
    refine HA.mono ?_
    rintro e w1 ⟨rfl, h⟩
    subst h
    go_wp2_with fail
    refine HB.mono ?_
    rintro e w2 ⟨rfl, h⟩
    subst h
    go_wp2
    go_ret
    exact ⟨rfl, rfl⟩
  · rw [if_neg h1]
    by_cases h2 : b < a
    · rw [if_pos h2]
      go_enter Try.func57, Try.ntmps57
      go_wp2_with fail
      refine HA.mono ?_
      rintro e w1 ⟨rfl, h⟩
      subst h
      go_wp2_with fail
      refine HB.mono ?_
      rintro e w2 ⟨rfl, h⟩
      subst h
      go_wp2
      go_ret
      exact ⟨rfl, rfl⟩
    · rw [if_neg h2]
      go_enter Try.func57, Try.ntmps57
      go_wp2_with fail
      refine HA.mono ?_
      rintro e w1 ⟨rfl, h⟩
      subst h
      go_wp2_with fail
      refine HB.mono ?_
      rintro e w2 ⟨rfl, h⟩
      subst h
      go_wp2
      go_ret
      exact ⟨rfl, rfl⟩
set_option maxRecDepth 100000 in
theorem or_any (x y : Int) (g c : Nat) (w : World) (h0 : w.cell? ⟨g, 0, none⟩ = some (.int .i64 x)) (h1 : w.cell? ⟨g, 1, none⟩ = some (.int .i64 y)) : Calls Try.prog 56 #[.slice (some ⟨g, 0, none⟩) 2 c] w fun e w' => e = .returned (.int .i64 (if x = 0 then y else x)) ∧ w' = w := by
  go_enter Try.func56, Try.ntmps56
  go_wp2
  go_loopw [8] (fun v wx => wx = w ∧ (v = .int .i64 0 ∨ v = .int .i64 1 ∧ x = 0 ∨ v = .int .i64 2 ∧ x = 0 ∧ y = 0)) (fun v _ => 2 - (intOf v).toNat)
  case atStart => exact ⟨rfl, .inl rfl⟩
  case round =>
    obtain ⟨hw, hr⟩ := hrel
    subst hw
    rcases hr with rfl | ⟨rfl, hx⟩ | ⟨rfl, hx, hy⟩
    · by_cases hx : x = 0
      · have HX := hide hx
        have tx : (x == 0) = true := by simp [hx]
        subst hx
        go_wp2
        go_roundw
        case rel => first | exact ⟨trivial, .inr (.inl ⟨by go_num, trivial⟩)⟩ | exact ⟨trivial, .inr (.inl (by go_num))⟩ | simp
        case measure => simp [intOf]
      · have tx : (x == 0) = false := by simp [hx]
        go_wp2
        go_ret
        exact ⟨rfl, rfl⟩
    · subst hx
      by_cases hy : y = 0
      · subst hy
        go_wp2
        go_roundw
        case rel => first | exact ⟨trivial, .inr (.inr ⟨by go_num, trivial, trivial⟩)⟩ | exact ⟨trivial, .inr (.inr ⟨by go_num, trivial⟩)⟩ | exact ⟨trivial, .inr (.inr (by go_num))⟩ | simp
        case measure => simp [intOf]
      · have ty : (y == 0) = false := by simp [hy]
        go_wp2
        go_ret
        exact ⟨rfl, rfl⟩
    · subst hx
      subst hy
      go_wp2
      go_ret
      exact ⟨rfl, rfl⟩
/-- How the pairs of two marks stand. -/
def cfP (a b : Mrk) : Int := if cmI (a.s : Int) (b.s : Int) = 0 then cmI (a.t : Int) (b.t : Int) else cmI (a.s : Int) (b.s : Int)
set_option maxRecDepth 100000 in
set_option maxHeartbeats 2000000 in
theorem byPair_any (a b : Mrk) (W : World) : Calls Try.prog 55 #[.agg (mkl a).toArray, .agg (mkl b).toArray] W fun e w' => e = .returned (.int .i64 (cfP a b)) ∧ ∃ q os', w' = Go.Sort.grow (W.drewN q) os' := by
  obtain ⟨aw, an, ac, av, am, ad, sa, ta⟩ := a
  obtain ⟨bw, bn, bc, bv, bm, bd, sb, tb⟩ := b
  obtain ⟨x, hx⟩ : ∃ x, x = cmI (sa : Int) (sb : Int) := ⟨_, rfl⟩
  obtain ⟨y, hy⟩ : ∃ y, y = cmI (ta : Int) (tb : Int) := ⟨_, rfl⟩
  have HX : Hid (∀ w, Calls Try.prog 57 #[.int .i64 (sa : Int), .int .i64 (sb : Int)] w fun e w' => e = .returned (.int .i64 x) ∧ w' = w) := fun w => by rw [hx]; exact compare_any _ _ w
  have HY : Hid (∀ w, Calls Try.prog 57 #[.int .i64 (ta : Int), .int .i64 (tb : Int)] w fun e w' => e = .returned (.int .i64 y) ∧ w' = w) := fun w => by rw [hy]; exact compare_any _ _ w
  have HC : Hid (cfP ⟨aw, an, ac, av, am, ad, sa, ta⟩ ⟨bw, bn, bc, bv, bm, bd, sb, tb⟩ = if x = 0 then y else x) := by show cfP _ _ = _; unfold cfP; rw [hx, hy]
  rw [unhide HC]
  obtain ⟨r, hr⟩ : ∃ r, r = if x = 0 then y else x := ⟨_, rfl⟩
  rw [← hr]
  have HR := hide hr
  unfold mkl
  show Calls Try.prog 55 #[.agg #[.slice aw an ac, .slice av am ad, .int .i64 (sa : Int), .int .i64 (ta : Int)], .agg #[.slice bw bn bc, .slice bv bm bd, .int .i64 (sb : Int), .int .i64 (tb : Int)]] W _
  clear HC hx hy hr
  go_enter Try.func55, Try.ntmps55
  go_wp2
  obtain ⟨W2, hW2⟩ : ∃ W2, W2 = (W.alloc (.cells #[.slice aw an ac, .slice av am ad, .int .i64 (sa : Int), .int .i64 (ta : Int)] 72)).alloc (.cells #[.slice bw bn bc, .slice bv bm bd, .int .i64 (sb : Int), .int .i64 (tb : Int)] 72) := ⟨_, rfl⟩
  rw [← hW2]
  have S2 : (fun wz : World => (wz.cell? ⟨W.heap.size, 2, none⟩ = some (.int .i64 (sa : Int)) ∧ wz.cell? ⟨W.heap.size, 3, none⟩ = some (.int .i64 (ta : Int))) ∧ wz.cell? ⟨W.heap.size + 1, 2, none⟩ = some (.int .i64 (sb : Int)) ∧ wz.cell? ⟨W.heap.size + 1, 3, none⟩ = some (.int .i64 (tb : Int))) W2 := by
    have h1 := heap_alloc_new W (.cells #[.slice aw an ac, .slice av am ad, .int .i64 (sa : Int), .int .i64 (ta : Int)] 72)
    have h2 := heap_alloc_new (W.alloc (.cells #[.slice aw an ac, .slice av am ad, .int .i64 (sa : Int), .int .i64 (ta : Int)] 72)) (.cells #[.slice bw bn bc, .slice bv bm bd, .int .i64 (sb : Int), .int .i64 (tb : Int)] 72)
    rw [World.size_alloc] at h2
    have h3 := (Below.heap_alloc (W.alloc (.cells #[.slice aw an ac, .slice av am ad, .int .i64 (sa : Int), .int .i64 (ta : Int)] 72)) (.cells #[.slice bw bn bc, .slice bv bm bd, .int .i64 (sb : Int), .int .i64 (tb : Int)] 72) W.heap.size (by simp)).trans h1
    rw [← hW2] at h2 h3
    show (_ ∧ _) ∧ _ ∧ _
    unfold World.cell?
    rw [h2, h3]
    exact ⟨⟨rfl, rfl⟩, rfl, rfl⟩
  have hs0 : (fun wz : World => (wz.cell? ⟨W.heap.size, 2, none⟩ = some (.int .i64 (sa : Int)) ∧ wz.cell? ⟨W.heap.size, 3, none⟩ = some (.int .i64 (ta : Int))) ∧ wz.cell? ⟨W.heap.size + 1, 2, none⟩ = some (.int .i64 (sb : Int)) ∧ wz.cell? ⟨W.heap.size + 1, 3, none⟩ = some (.int .i64 (tb : Int))) W2.drew := S2
  have hs1 : (fun wz : World => (wz.cell? ⟨W.heap.size, 2, none⟩ = some (.int .i64 (sa : Int)) ∧ wz.cell? ⟨W.heap.size, 3, none⟩ = some (.int .i64 (ta : Int))) ∧ wz.cell? ⟨W.heap.size + 1, 2, none⟩ = some (.int .i64 (sb : Int)) ∧ wz.cell? ⟨W.heap.size + 1, 3, none⟩ = some (.int .i64 (tb : Int))) (W2.alloc (.cells #[.int .i64 x, .int .i64 y] 3)).drew := by
    have hb := ballo W2 (.cells #[.int .i64 x, .int .i64 y] 3)
    have hz : W2.heap.size = W.heap.size + 2 := by rw [hW2]; simp
    obtain ⟨⟨q0, q1⟩, q2, q3⟩ := S2
    exact ⟨⟨(hb.cell (by show W.heap.size < _; omega)).trans q0, (hb.cell (by show W.heap.size < _; omega)).trans q1⟩, (hb.cell (by show W.heap.size + 1 < _; omega)).trans q2, (hb.cell (by show W.heap.size + 1 < _; omega)).trans q3⟩
  dsimp only at hs0 hs1
  have HO : Hid (Calls Try.prog 56 #[.slice (some ⟨W2.heap.size, 0, none⟩) 2 2] (W2.alloc (.cells #[.int .i64 x, .int .i64 y] 3)).drew fun e w' => e = .returned (.int .i64 r) ∧ w' = (W2.alloc (.cells #[.int .i64 x, .int .i64 y] 3)).drew) := by
    have h1 := heap_alloc_new W2 (.cells #[.int .i64 x, .int .i64 y] 3)
    rw [unhide HR]
    refine or_any x y W2.heap.size 2 _ ?_ ?_
    · show (W2.alloc (.cells #[.int .i64 x, .int .i64 y] 3)).cell? _ = _
      unfold World.cell?; rw [h1]; rfl
    · show (W2.alloc (.cells #[.int .i64 x, .int .i64 y] 3)).cell? _ = _
      unfold World.cell?; rw [h1]; rfl
  have HE : Hid (∃ q os', (W2.alloc (.cells #[.int .i64 x, .int .i64 y] 3)).drew = Go.Sort.grow (W.drewN q) os') := by
    refine ⟨1, #[.cells #[.slice aw an ac, .slice av am ad, .int .i64 (sa : Int), .int .i64 (ta : Int)] 72, .cells #[.slice bw bn bc, .slice bv bm bd, .int .i64 (sb : Int), .int .i64 (tb : Int)] 72, .cells #[.int .i64 x, .int .i64 y] 3], ?_⟩
    rw [hW2, Go.Sort.alloc_eq_grow, Go.Sort.alloc_eq_grow, Go.Sort.alloc_eq_grow, Go.Sort.grow_grow, Go.Sort.grow_grow]
    rfl
  clear S2 hW2
  go_region_held (fun wz => (wz.cell? ⟨W.heap.size, 2, none⟩ = some (.int .i64 (sa : Int)) ∧ wz.cell? ⟨W.heap.size, 3, none⟩ = some (.int .i64 (ta : Int))) ∧ wz.cell? ⟨W.heap.size + 1, 2, none⟩ = some (.int .i64 (sb : Int)) ∧ wz.cell? ⟨W.heap.size + 1, 3, none⟩ = some (.int .i64 (tb : Int))) (first | with_reducible exact hs0 | with_reducible exact hs1 | go_keep)
    (first
    | (go_at_call 57; (first | with_reducible refine (unhide HX _).mono ?_ | with_reducible refine (unhide HY _).mono ?_); rintro e w' ⟨rfl, h⟩; subst w')
    | (go_at_call 56; with_reducible refine (unhide HO).mono ?_; rintro e w' ⟨rfl, h⟩; subst w'))
  all_goals
    go_wp2
    go_ret
    exact ⟨rfl, unhide HE⟩
end Go.Proofs.Ytknefgdcnacfoaa
