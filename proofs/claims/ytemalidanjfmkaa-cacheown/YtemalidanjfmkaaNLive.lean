/-
  The document's example: live returns true.
-/
import Derived.Test.YtemalidanjfmkaaNPut
import Derived.Test.YtemalidanjfmkaaNGet
import Derived.Test.YtemalidanjfmkaaNNew
import Derived.Test.YtemalidanjfmkaaK1
namespace Go.Proofs.Ytemalidanjfmkaa
open Go.RowKit

theorem num_any (e : Int) (w : World) : Calls Try.prog 13 #[.int .i64 e] w fun x w' => x = .returned (.int .i64 e) ∧ w' = w := by
  go_enter Try.func13, Try.ntmps13
  go_wp2
  go_ret
  exact ⟨rfl, rfl⟩
theorem lv1 : newE 2 2 2 9 = 0 ∧ newE 1 1 2 2 = 0 := by decide
theorem lv2 : (putV (newV 2 2 2 9) [0, 1] [1, 0]).2 = 0 := by decide
theorem lv3 : findV (putV (newV 2 2 2 9) [0, 1] [1, 0]).1 [0] = some [1] := by decide
theorem lv4 : (putV (getV (putV (newV 2 2 2 9) [0, 1] [1, 0]).1 [0]) [0] [0]).2 = 111 := by decide
theorem lv5 : (putV (newV 1 1 2 2) [0, 0] [1]).2 = 110 := by decide
theorem lv6 : (putV (getV (putV (newV 2 2 2 9) [0, 1] [1, 0]).1 [0]) [0] [0]).1.bg.length = 3 ∧ (putV (getV (putV (newV 2 2 2 9) [0, 1] [1, 0]).1 [0]) [0] [0]).1.hits = 1 := by decide
theorem lv7 : (putV (newV 2 2 2 9) [0, 1] [1, 0]).1.hits = 0 ∧ (putV (newV 2 2 2 9) [0, 1] [1, 0]).1.miss = 0 := by decide

theorem lit2 (w : World) (x y : Int) : RdL .i64 (w.alloc (.cells #[.int .i64 x, .int .i64 y] 3)) (some ⟨w.heap.size, 0, none⟩) [x, y] := RdL.lit w [x, y] _ (by unfold maxLen; simp) rfl
theorem lit1 (w : World) (x : Int) : RdL .i64 (w.alloc (.cells #[.int .i64 x] 3)) (some ⟨w.heap.size, 0, none⟩) [x] := RdL.lit w [x] _ (by unfold maxLen; simp) rfl

set_option maxRecDepth 100000 in
set_option maxHeartbeats 4000000 in
theorem live_any (w : World) : Calls Try.prog 10 #[] w fun e w' => e = .returned (.bool true) ∧ Below w.heap.size w w' := by
  have hn1 := new_any 2 2 2 9 w
  go_enter Try.func10, Try.ntmps10
  go_wp2_with fail
  refine hn1.mono ?_
  rintro e w1 ⟨hb1, hor1⟩
  obtain ⟨b, g, cap, R, rfl, co1, hb, hg⟩ : ∃ b g cap R, e = .returned (.tuple #[.pointer (some ⟨b, 0, none⟩), .int .i64 0]) ∧ Co w.heap.size w1 b g cap (newV 2 2 2 9) R ∧ w.heap.size ≤ b ∧ w.heap.size ≤ g := by
    rcases hor1 with ⟨h, -⟩ | ⟨-, h⟩
    · exact absurd lv1.1 h
    · exact h
  have hn2 := new_any 1 1 2 2 w1
  clear hn1 hor1
  go_wp2_with fail
  refine hn2.mono ?_
  rintro e w2 ⟨hb2, hor2⟩
  obtain ⟨b2, g2, cap2, R2, rfl, co2, hb2', hg2'⟩ : ∃ b g cap R, e = .returned (.tuple #[.pointer (some ⟨b, 0, none⟩), .int .i64 0]) ∧ Co w1.heap.size w2 b g cap (newV 1 1 2 2) R ∧ w1.heap.size ≤ b ∧ w1.heap.size ≤ g := by
    rcases hor2 with ⟨h, -⟩ | ⟨-, h⟩
    · exact absurd lv1.2 h
    · exact h
  have HD := hide co2
  have hbl := co1.blt
  have hgl := co1.glt.2
  have hbl2 := co2.blt
  have hgl2 := co2.glt.2
  have z1 := hb1.size
  have z2 := hb2.size
  -- the first Put
  obtain ⟨W1, hW1⟩ : ∃ W, W = (w2.alloc (.cells #[.int .i64 0, .int .i64 1] 3)).alloc (.cells #[.int .i64 1, .int .i64 0] 3) := ⟨_, rfl⟩
  have hbW : Below w2.heap.size w2 W1 := by rw [hW1]; exact bstep (ballo _ _) (ballo _ _)
  have zW : W1.heap.size = w2.heap.size + 2 := by rw [hW1]; simp
  have coW := (co1.below hb2).below hbW
  have hp1 := put_any (some ⟨w2.heap.size, 0, none⟩) 2 [0, 1] (some ⟨w2.heap.size + 1, 0, none⟩) 2 [1, 0] coW (by rw [hW1]; exact (lit2 w2 0 1).below (ballo _ _)) (by rw [hW1]; have := lit2 (w2.alloc (.cells #[.int .i64 0, .int .i64 1] 3)) 1 0; rwa [World.size_alloc] at this) (by unfold maxLen; simp) (by unfold maxLen; simp) (fun x ex => by cases ex; exact ⟨by show w2.heap.size < _; omega, by show w2.heap.size ≠ _; omega, by show w2.heap.size ≠ _; omega⟩) (by omega)
  have HBW := hide hbW
  have HZW := hide zW
  rw [hW1] at hp1
  clear hn2 hor2 coW hbW zW co1 co2
  go_wp2_with (first | (go_at_call 13; refine (num_any _ _).mono ?_; rintro e w' ⟨rfl, rfl⟩) | fail)
  refine hp1.mono ?_
  rw [← hW1]
  rintro e w3 ⟨rfl, g3, cap3, R3, co3, bx3, hg3⟩
  rw [lv2]
  have d3 := ((unhide HD).below (unhide HBW)).bx bx3 (by rintro (q | q) <;> omega) (by rintro (q | q) <;> omega)
  have HD3 := hide d3
  have z3 := bx3.size
  rw [unhide HZW] at z3 hg3
  have HB3 : Hid (Below w.heap.size w w3) := (bstep hb1 (bstep hb2 (unhide HBW))).trans (bx3.below (fun k hk => by rcases hk with q | q <;> omega) (by have := unhide HZW; omega))
  clear hp1 hW1 bx3 d3 HBW HD
  -- Get
  have hq0 : 0 ≤ (putV (newV 2 2 2 9) [0, 1] [1, 0]).1.hits ∧ (putV (newV 2 2 2 9) [0, 1] [1, 0]).1.hits ≤ 1000000000 := by rw [lv7.1]; decide
  have hq1 : 0 ≤ (putV (newV 2 2 2 9) [0, 1] [1, 0]).1.miss ∧ (putV (newV 2 2 2 9) [0, 1] [1, 0]).1.miss ≤ 1000000000 := by rw [lv7.2]; decide
  have hgt := get_any (some ⟨w3.heap.size, 0, none⟩) 1 [0] (co3.below (ballo w3 (.cells #[.int .i64 0] 3))) (lit1 w3 0) (by simp) hq0.1 hq0.2 hq1.1 hq1.2
  have HB4 := hide (ballo w3 (.cells #[.int .i64 0] 3))
  have HG4 := hide co3.glt.2
  clear hq0 hq1 co3
  have z4 : (w3.alloc (.cells #[.int .i64 0] 3)).heap.size = w3.heap.size + 1 := by simp
  have HZ4 := hide z4
  clear z4
  obtain ⟨W4, hW4⟩ : ∃ W, W = w3.alloc (.cells #[.int .i64 0] 3) := ⟨_, rfl⟩
  rw [← hW4] at HB4 HZ4
  have hbl3 := (unhide HD3).blt
  have hgl3 := (unhide HD3).glt.2
  go_wp2_with fail
  refine hgt.mono ?_
  rw [← hW4]
  rintro e w4 ⟨co4, bx4, vo, rfl, ho4⟩
  rw [lv3] at ho4 ⊢
  have d4 := ((unhide HD3).below (unhide HB4)).bx bx4 (by show ¬ _ = b; omega) (by show ¬ _ = b; omega)
  have HD4 := hide d4
  have z4 := bx4.size
  rw [unhide HZ4] at z4
  have HB5 : Hid (Below w.heap.size w w4) := (bstep (unhide HB3) (unhide HB4)).trans (bx4.below (fun k hk => by cases hk; omega) (by have := unhide HZ4; omega))
  obtain ⟨av, cv, rfl, -, -, -, hrv, hbv⟩ := ho4.shape
  have HR4 := hide hrv
  have HV4 : Hid (∀ x, av = some x → w3.heap.size < x.block ∧ x.block < w4.heap.size) := fun x ex => by have := hbv x ex; have := unhide HZ4; omega
  clear hgt hW4 bx4 d4 HB4 HD3 HB3 HZ4 ho4 hrv hbv
  -- the second Put
  obtain ⟨C4, hC4⟩ : ∃ C, C = getV (putV (newV 2 2 2 9) [0, 1] [1, 0]).1 [0] := ⟨_, rfl⟩
  have HL4 : Hid ((putV C4 [0] [0]).2 = 111 ∧ (putV C4 [0] [0]).1.bg.length = 3 ∧ (putV C4 [0] [0]).1.hits = 1) := by rw [hC4]; exact ⟨lv4, lv6⟩
  rw [← hC4] at co4
  clear hC4
  obtain ⟨W5, hW5⟩ : ∃ W, W = (w4.alloc (.cells #[.int .i64 0] 3)).alloc (.cells #[.int .i64 0] 3) := ⟨_, rfl⟩
  have hbW : Below w4.heap.size w4 W5 := by rw [hW5]; exact bstep (ballo _ _) (ballo _ _)
  have zW : W5.heap.size = w4.heap.size + 2 := by rw [hW5]; simp
  have hbl4 := co4.blt
  have hgl4 := co4.glt.2
  have hp2 := put_any (some ⟨w4.heap.size, 0, none⟩) 1 [0] (some ⟨w4.heap.size + 1, 0, none⟩) 1 [0] (co4.below hbW) (by rw [hW5]; exact (lit1 w4 0).below (ballo _ _)) (by rw [hW5]; have := lit1 (w4.alloc (.cells #[.int .i64 0] 3)) 0; rwa [World.size_alloc] at this) (by unfold maxLen; simp) (by unfold maxLen; simp) (fun x ex => by cases ex; exact ⟨by show w4.heap.size < _; omega, by show w4.heap.size ≠ _; omega, by show w4.heap.size ≠ _; omega⟩) (by omega)
  have HBW := hide hbW
  have HZW5 := hide zW
  have HG3 := hide hg3
  rw [hW5] at hp2
  clear hbW zW co4 hgl4 hg3 hbl4
  go_wp2_with fail
  refine hp2.mono ?_
  rw [← hW5]
  rintro e w5 ⟨rfl, g5, cap5, R5, co5, bx5, hg5⟩
  rw [(unhide HL4).1]
  have hd4 : g2 < w3.heap.size := by omega
  have d5 := ((unhide HD4).below (unhide HBW)).bx bx5 (by have := unhide HG3; rintro (q | q) <;> omega) (by have := unhide HG3; rintro (q | q) <;> omega)
  have HD5 := hide d5
  have z5 := bx5.size
  rw [unhide HZW5] at z5 hg5
  have HB6 : Hid (Below w.heap.size w w5) := (bstep (unhide HB5) (unhide HBW)).trans (bx5.below (fun k hk => by have := unhide HG3; rcases hk with q | q <;> omega) (by have := unhide HZW5; omega))
  have HR5 := hide (((unhide HR4).below (unhide HBW)).bx bx5 fun x ex => by have := unhide HV4 x ex; have := unhide HG4; rintro (q | q) <;> omega)
  have HV5 : Hid (∀ x, av = some x → w3.heap.size < x.block ∧ x.block < w5.heap.size) := fun x ex => by have := unhide HV4 x ex; omega
  have HG5 : Hid (b < w5.heap.size ∧ g5 < w5.heap.size ∧ b2 < w3.heap.size ∧ g2 < w3.heap.size ∧ (g5 = g3 ∨ w4.heap.size + 2 ≤ g5)) := ⟨co5.blt, co5.glt.2, by omega, by omega, hg5⟩
  clear hp2 hW5 bx5 d5 HBW HD4 HB5 HZW5 HR4 HV4 hg5
  obtain ⟨C5, hC5⟩ : ∃ C, C = (putV C4 [0] [0]).1 := ⟨_, rfl⟩
  rw [← hC5] at co5
  have HL5 : Hid (C5.bg.length = 3 ∧ C5.hits = 1) := by rw [hC5]; exact (unhide HL4).2
  clear hC5 HL4
  -- the third Put
  obtain ⟨W6, hW6⟩ : ∃ W, W = (w5.alloc (.cells #[.int .i64 0, .int .i64 0] 3)).alloc (.cells #[.int .i64 1] 3) := ⟨_, rfl⟩
  have hbW : Below w5.heap.size w5 W6 := by rw [hW6]; exact bstep (ballo _ _) (ballo _ _)
  have zW : W6.heap.size = w5.heap.size + 2 := by rw [hW6]; simp
  have hp3 := put_any (some ⟨w5.heap.size, 0, none⟩) 2 [0, 0] (some ⟨w5.heap.size + 1, 0, none⟩) 1 [1] ((unhide HD5).below hbW) (by rw [hW6]; exact (lit2 w5 0 0).below (ballo _ _)) (by rw [hW6]; have := lit1 (w5.alloc (.cells #[.int .i64 0, .int .i64 0] 3)) 1; rwa [World.size_alloc] at this) (by unfold maxLen; simp) (by unfold maxLen; simp) (fun x ex => by cases ex; exact ⟨by show w5.heap.size < _; omega, by show w5.heap.size ≠ _; omega, by show w5.heap.size ≠ _; omega⟩) (by omega)
  have HBW := hide hbW
  have HZW6 := hide zW
  have HC5 := hide co5
  rw [hW6] at hp3
  clear hbW zW co5
  go_wp2_with fail
  refine hp3.mono ?_
  rw [← hW6]
  rintro e w6 ⟨rfl, g6, cap6, R6, -, bx6, -⟩
  rw [lv5]
  have co6 := ((unhide HC5).below (unhide HBW)).bx bx6 (by have := unhide HG5; rintro (q | q) <;> omega) (by have := unhide HG5; have := unhide HG4; have := unhide HG3; rintro (q | q) <;> omega)
  have HR6 := hide (((unhide HR5).below (unhide HBW)).bx bx6 fun x ex => by have := unhide HV5 x ex; have := unhide HG5; rintro (q | q) <;> omega)
  have HB7 : Hid (Below w.heap.size w w6) := (bstep (unhide HB6) (unhide HBW)).trans (bx6.below (fun k hk => by rcases hk with q | q <;> omega) (by have := unhide HZW6; omega))
  have hno := nodes_any co6
  rw [(unhide HL5).1] at hno
  have HHI : Hid (∀ w7, Below (w6.alloc (.cells #[.int .i64 1] 3)).heap.size (w6.alloc (.cells #[.int .i64 1] 3)) w7 → Calls Try.prog 22 #[.pointer (some ⟨b, 0, none⟩)] w7 fun e w' => e = .returned (.int .i64 1) ∧ w' = w7) := fun w7 h7 => by
    have := hits_any ((co6.below (ballo w6 (.cells #[.int .i64 1] 3))).below h7)
    rwa [(unhide HL5).2] at this
  have hsm := same_list av (some ⟨w6.heap.size, 0, none⟩) cv 1 [1] [1] _ ((unhide HR6).below (ballo w6 (.cells #[.int .i64 1] 3))) (lit1 w6 1) (by unfold maxLen; simp)
  have HC6 := hide co6
  clear co6 hp3 hW6 bx6 HBW HD5 HB6 HZW6 HR5 HV5 HC5
  go_wp2_with (first | (go_at_call 13; refine (num_any _ _).mono ?_; rintro e w' ⟨rfl, rfl⟩) | (go_at_call 21; refine hno.mono ?_; rintro e w' ⟨rfl, rfl⟩) | (go_at_call 19; refine hsm.mono ?_; rintro e w7 ⟨rfl, hb7⟩) | (go_at_call 22; refine (unhide HHI _ hb7).mono ?_; rintro e w' ⟨rfl, rfl⟩))
  go_ret
  exact ⟨by rfl, bstep (bstep (unhide HB7) (ballo _ _)) hb7⟩

end Go.Proofs.Ytemalidanjfmkaa
