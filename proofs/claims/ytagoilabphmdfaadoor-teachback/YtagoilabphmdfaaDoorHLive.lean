/-
  The page's examples of layer 10: live returns true in every world, and turns nothing that was there.
-/
import Derived.Test.YtagoilabphmdfaaDoorHPar
import Derived.Test.YtagoilabphmdfaaDoorHFit
import Derived.Test.YtagoilabphmdfaaDoorTCon
import Derived.Test.YtagoilabphmdfaaDoorK1
namespace Go.Proofs.YtagoilabphmdfaaDoor
open Go.RowKit

theorem num_any (e : Int) (w : World) : Calls Tryd.prog 11 #[.int .i64 e] w fun x w' => x = .returned (.int .i64 e) ∧ w' = w := by
  go_enter Tryd.func11, Tryd.ntmps11
  go_wp2
  go_ret
  exact ⟨rfl, rfl⟩
theorem lv_par : parV [111, 32, 48, 32, 49, 10, 121, 10, 110, 32, 50, 10] = ([⟨1, [0, 1], []⟩, ⟨2, [], []⟩, ⟨3, [], [2]⟩], 0, 12) := by rfl
theorem lv_bad : parV [111, 32, 48, 49, 10] = ([], 6, 3) := by rfl
def lvQ : Pq := ⟨⟨1, [], ⟨1, 0, 2, 0, [], []⟩⟩, none, 0, none, 0, none, 0⟩
theorem lv_chk : chkA lvQ.q ⟨1, [2], []⟩ = 100 := by decide
theorem an3 {l : List Pa} {x y z : An} (h : anL l = [x, y, z]) : ∃ p q r : Pa, l = [p, q, r] ∧ p.an = x ∧ q.an = y ∧ r.an = z := by
  match l, h with
  | [p, q, r], h =>
    simp [anL] at h
    exact ⟨p, q, r, rfl, h.1, h.2.1, h.2.2⟩

set_option maxRecDepth 100000 in
set_option maxHeartbeats 4000000 in
theorem live_any (w : World) : Calls Tryd.prog 6 #[] w fun e w' => e = .returned (.bool true) ∧ Below w.heap.size w w' := by
  have ba : Below w.heap.size w (w.alloc (.cells #[.int .u8 111, .int .u8 32, .int .u8 48, .int .u8 32, .int .u8 49, .int .u8 10, .int .u8 121, .int .u8 10, .int .u8 110, .int .u8 32, .int .u8 50, .int .u8 10] 5 (12, 13))) := ballo _ _
  have hc1 := conv_const w #[.int .u8 111, .int .u8 32, .int .u8 48, .int .u8 32, .int .u8 49, .int .u8 10, .int .u8 121, .int .u8 10, .int .u8 110, .int .u8 32, .int .u8 50, .int .u8 10] 12 12
  have hr1 := RdL.const w [111, 32, 48, 32, 49, 10, 121, 10, 110, 32, 50, 10] #[.int .u8 111, .int .u8 32, .int .u8 48, .int .u8 32, .int .u8 49, .int .u8 10, .int .u8 121, .int .u8 10, .int .u8 110, .int .u8 32, .int .u8 50, .int .u8 10] (12, 13) rfl
  have hp1 := tparse_any (some ⟨w.heap.size, 0, none⟩) 12 [111, 32, 48, 32, 49, 10, 121, 10, 110, 32, 50, 10] _ hr1 (by decide)
  rw [lv_par] at hp1
  go_enter Tryd.func6, Tryd.ntmps6
  go_wp2_with fail
  refine hp1.mono ?_
  rintro e w1 ⟨a1, c1, l, rfl, hrd, han, -, hb1⟩
  obtain ⟨P0, P1, P2, rfl, e0, e1, e2⟩ := an3 han
  have b1 := bstep ba hb1
  clear hp1 hr1 hc1 ba hb1 han
  obtain ⟨bb, off, rfl, hc⟩ := hrd.at (i := 0) (by simp)
  have k0 := hc 0 (by simp)
  have k1 := hc 1 (by simp)
  have k2 := hc 2 (by simp)
  simp only [List.getElem_cons_zero, List.getElem_cons_succ, e0, e1, e2] at k0 k1 k2
  have r0 := (hrd.row P0 (by simp)).out
  have r2 := (hrd.row P2 (by simp)).word
  rw [e0] at r0
  rw [e2] at r2
  have HK : Hid (∀ wz, Below w1.heap.size w1 wz → wz.cell? ⟨bb, off + 1, none⟩ = some (.slice P0.a1 2 P0.c1) ∧ wz.cell? ⟨bb, off + 3, none⟩ = some (.int .i64 2) ∧ wz.cell? ⟨bb, off + 6 + 2, none⟩ = some (.slice P2.a2 1 P2.c2)) := fun wz hz => by
    obtain ⟨-, x0, -⟩ := k0
    obtain ⟨x1, -, -⟩ := k1
    obtain ⟨-, -, x2⟩ := k2
    exact ⟨(hz.cell (World.block_lt_of_cell? _ _ x0)).trans x0, (hz.cell (World.block_lt_of_cell? _ _ x1)).trans x1, (hz.cell (World.block_lt_of_cell? _ _ x2)).trans x2⟩
  have R0 := hide r0
  have R2 := hide r2
  have B1 := hide b1
  clear k0 k1 k2 r0 r2 b1 hc hrd e0 e1 e2
  rw [show [P0, P1, P2].length = 3 from rfl]
  have ba : Below w1.heap.size w1 (w1.alloc (.cells #[.int .u8 111, .int .u8 32, .int .u8 48, .int .u8 49, .int .u8 10] 5 (5, 6))) := ballo _ _
  have hc2 := conv_const w1 #[.int .u8 111, .int .u8 32, .int .u8 48, .int .u8 49, .int .u8 10] 5 5
  have hr2 := RdL.const w1 [111, 32, 48, 49, 10] #[.int .u8 111, .int .u8 32, .int .u8 48, .int .u8 49, .int .u8 10] (5, 6) rfl
  have hp2 := tparse_any (some ⟨w1.heap.size, 0, none⟩) 5 [111, 32, 48, 49, 10] _ hr2 (by decide)
  rw [lv_bad] at hp2
  dsimp only
  go_wp2_with fail
  refine hp2.mono ?_
  rintro e w2 ⟨a2, c2, l2, rfl, -, han2, -, hb2⟩
  obtain rfl : l2 = [] := List.map_eq_nil_iff.1 han2
  have Q3 := Qb.alloc w2 lvQ 41
  have hb3 := bstep (bstep ba hb2) (ballo w2 (.cells #[.int .i64 lvQ.q.kind, .slice lvQ.aw lvQ.q.word.length lvQ.cw, .int .i64 lvQ.q.hyp.kind, .int .i64 lvQ.q.hyp.k, .int .i64 lvQ.q.hyp.o, .int .i64 lvQ.q.hyp.n, .slice lvQ.a1 lvQ.q.hyp.nx.length lvQ.c1, .slice lvQ.a2 lvQ.q.hyp.out.length lvQ.c2] 41))
  clear hp2 hr2 hc2 ba hb2 han2
  rw [show ([] : List Pa).length = 0 from rfl]
  dsimp only
  go_wp2_with fail
  refine (num_any _ _).mono ?_
  rintro e _ ⟨rfl, rfl⟩
  dsimp only [lvQ, List.length_nil] at Q3 hb3
  obtain ⟨W3, hW3⟩ : ∃ W3, W3 = w2.alloc (.cells #[.int .i64 1, .slice none 0 0, .int .i64 1, .int .i64 0, .int .i64 2, .int .i64 0, .slice none 0 0, .slice none 0 0] 41) := ⟨_, rfl⟩
  rw [← hW3] at Q3 hb3 ⊢
  clear hW3
  obtain ⟨x0, -, -⟩ := unhide HK W3 hb3
  have hs1 := same_list P0.a1 (some ⟨W3.heap.size, 0, none⟩) P0.c1 2 [0, 1] [0, 1] (W3.alloc (.cells #[.int .i64 0, .int .i64 1] 3)) ((unhide R0).below (bstep hb3 (ballo _ _))) (RdL.lit (q := .i64) (t := 3) W3 [0, 1] #[.int .i64 0, .int .i64 1] (by decide) rfl) (by decide)
  rw [show decide (([0, 1] : List Int) = [0, 1]) = true by decide] at hs1
  have HQ3 := hide Q3
  have HB3 := hide hb3
  clear Q3 hb3
  go_wp2_with fail
  refine hs1.mono ?_
  rintro e W4 ⟨rfl, hb4⟩
  have h34 := bstep (ballo W3 (.cells #[.int .i64 0, .int .i64 1] 3)) hb4
  have HB4 := hide (bstep (unhide HB3) h34)
  have HQ4 := hide ((unhide HQ3).below h34)
  clear hs1 x0 hb4 h34 HQ3 HB3
  obtain ⟨-, x1, x2⟩ := unhide HK W4 (unhide HB4)
  have hs2 := same_list P2.a2 (some ⟨W4.heap.size, 0, none⟩) P2.c2 1 [2] [2] (W4.alloc (.cells #[.int .i64 2] 3)) ((unhide R2).below (bstep (unhide HB4) (ballo _ _))) (RdL.lit (q := .i64) (t := 3) W4 [2] #[.int .i64 2] (by decide) rfl) (by decide)
  rw [show decide (([2] : List Int) = [2]) = true by decide] at hs2
  go_wp2_with fail
  refine hs2.mono ?_
  rintro e W5 ⟨rfl, hb5⟩
  have h45 := bstep (ballo W4 (.cells #[.int .i64 2] 3)) hb5
  have HB5 := hide (bstep (unhide HB4) h45)
  have HQ5 := hide ((unhide HQ4).below h45)
  clear hs2 x1 x2 hb5 h45 HQ4 HB4
  go_wp2_with fail
  refine (num_any _ _).mono ?_
  rintro e w9 ⟨rfl, hw9⟩
  rw [hw9]
  clear hw9 w9
  obtain ⟨q0, q1, q2, q3, q4, q5, q6, q7⟩ := unhide HQ5
  have hck := tcheck_any lvQ ⟨⟨1, [2], []⟩, some ⟨W5.heap.size, 0, none⟩, 1, none, 0⟩ (W5.alloc (.cells #[.int .i64 2] 3)) ⟨RdL.lit (q := .i64) (t := 3) W5 [2] #[.int .i64 2] (by decide) rfl, .inl rfl⟩ (show (1 : Nat) ≤ maxLen by decide) (show (0 : Nat) ≤ maxLen by decide)
  rw [lv_chk] at hck
  unfold pqV paV at hck
  dsimp only [lvQ, List.length_nil, List.length_cons] at hck q0 q1 q2 q3 q4 q5 q6 q7
  go_wp2_with fail
  refine hck.mono ?_
  rintro e W6 ⟨rfl, hb6⟩
  have HB6 := hide (bstep (unhide HB5) (bstep (ballo _ _) hb6))
  clear hck q0 q1 q2 q3 q4 q5 q6 q7 hb6
  go_wp2_with fail
  refine (num_any _ _).mono ?_
  rintro e _ ⟨rfl, rfl⟩
  go_wp2
  go_ret
  exact ⟨rfl, bstep (unhide B1) (unhide HB6)⟩

end Go.Proofs.YtagoilabphmdfaaDoor
