/-
  The page's examples: live returns true in every world, and turns nothing that was there.
-/
import Derived.Test.YteiembcgmakhgaaMCopy
namespace Go.Proofs.Yteiembcgmakhgaa
open Go.RowKit

theorem num_any (e : Int) (w : World) : Calls Try.prog 14 #[.int .i64 e] w fun x w' => x = .returned (.int .i64 e) ∧ w' = w := by
  go_enter Try.func14, Try.ntmps14
  go_wp2
  go_ret
  exact ⟨rfl, rfl⟩

def mD : Mc := ⟨1, 1, 2, 2, [1, 0], [0, 1]⟩
def mM : Mc := ⟨2, 1, 2, 2, [1, 0], [0, 1]⟩
theorem fv1 : fromV mD 0 [0] = (1, [1], 0) := by decide
theorem fv2 : fromV mM 0 [0, 0, 0] = (1, [0, 1, 0], 0) := by decide
theorem mv0 : mchV mc0 = (0, 30) := by decide

set_option maxRecDepth 100000 in
theorem live_any (w : World) : Calls Try.prog 10 #[] w fun e w' => e = .returned (.bool true) ∧ Below w.heap.size w w' := by
  have b0 := bstep (bstep (bstep (ballo w (.cells #[.int .i64 1, .int .i64 0] 3)) (ballo _ (.cells #[.int .i64 0, .int .i64 1] 3))) (ballo _ (.cells #[.int .i64 1, .int .i64 1, .int .i64 2, .int .i64 2, .slice (some ⟨w.heap.size, 0, none⟩) 2 2, .slice (some ⟨w.heap.size + 1, 0, none⟩) 2 2] 24))) (ballo _ (.cells #[.int .i64 0] 3))
  have r1 := (RdL.lit (q := .i64) (t := 3) w [1, 0] #[.int .i64 1, .int .i64 0] (by decide) rfl).below (bstep (bstep (ballo _ (.cells #[.int .i64 0, .int .i64 1] 3)) (ballo _ (.cells #[.int .i64 1, .int .i64 1, .int .i64 2, .int .i64 2, .slice (some ⟨w.heap.size, 0, none⟩) 2 2, .slice (some ⟨w.heap.size + 1, 0, none⟩) 2 2] 24))) (ballo _ (.cells #[.int .i64 0] 3)))
  have r2 := (RdL.lit (q := .i64) (t := 3) (w.alloc (.cells #[.int .i64 1, .int .i64 0] 3)) [0, 1] #[.int .i64 0, .int .i64 1] (by decide) rfl).below (bstep (ballo _ (.cells #[.int .i64 1, .int .i64 1, .int .i64 2, .int .i64 2, .slice (some ⟨w.heap.size, 0, none⟩) 2 2, .slice (some ⟨w.heap.size + 1, 0, none⟩) 2 2] 24)) (ballo _ (.cells #[.int .i64 0] 3)))
  have r3 := RdL.lit (q := .i64) (t := 3) (((w.alloc (.cells #[.int .i64 1, .int .i64 0] 3)).alloc (.cells #[.int .i64 0, .int .i64 1] 3)).alloc (.cells #[.int .i64 1, .int .i64 1, .int .i64 2, .int .i64 2, .slice (some ⟨w.heap.size, 0, none⟩) 2 2, .slice (some ⟨w.heap.size + 1, 0, none⟩) 2 2] 24)) [0] #[.int .i64 0] (by decide) rfl
  have B0 : Box ((((w.alloc (.cells #[.int .i64 1, .int .i64 0] 3)).alloc (.cells #[.int .i64 0, .int .i64 1] 3)).alloc (.cells #[.int .i64 1, .int .i64 1, .int .i64 2, .int .i64 2, .slice (some ⟨w.heap.size, 0, none⟩) 2 2, .slice (some ⟨w.heap.size + 1, 0, none⟩) 2 2] 24)).alloc (.cells #[.int .i64 0] 3)) (w.heap.size + 1 + 1) mD (some ⟨w.heap.size, 0, none⟩) 2 (some ⟨w.heap.size + 1, 0, none⟩) 2 := by
    have := (Box.alloc ((w.alloc (.cells #[.int .i64 1, .int .i64 0] 3)).alloc (.cells #[.int .i64 0, .int .i64 1] 3)) mD (some ⟨w.heap.size, 0, none⟩) 2 (some ⟨w.heap.size + 1, 0, none⟩) 2 24).below (ballo _ (.cells #[.int .i64 0] 3))
    simp only [World.size_alloc] at this
    exact this
  have F0 : ((((w.alloc (.cells #[.int .i64 1, .int .i64 0] 3)).alloc (.cells #[.int .i64 0, .int .i64 1] 3)).alloc (.cells #[.int .i64 1, .int .i64 1, .int .i64 2, .int .i64 2, .slice (some ⟨w.heap.size, 0, none⟩) 2 2, .slice (some ⟨w.heap.size + 1, 0, none⟩) 2 2] 24)).alloc (.cells #[.int .i64 0] 3)).frozen? ⟨w.heap.size + 1 + 1, 0, none⟩ = false := by
    rw [frozen?_alloc_cells, frozen?_alloc_cells, frozen?_alloc_cells, frozen?_alloc_cells]
    exact frz_new w (by omega)
  have z0 : w.heap.size + 4 = ((((w.alloc (.cells #[.int .i64 1, .int .i64 0] 3)).alloc (.cells #[.int .i64 0, .int .i64 1] 3)).alloc (.cells #[.int .i64 1, .int .i64 1, .int .i64 2, .int .i64 2, .slice (some ⟨w.heap.size, 0, none⟩) 2 2, .slice (some ⟨w.heap.size + 1, 0, none⟩) 2 2] 24)).alloc (.cells #[.int .i64 0] 3)).heap.size := by simp
  simp only [World.size_alloc] at r2 r3
  go_enter Try.func10, Try.ntmps10
  go_wp2_with fail
  refine (run_any mD (some ⟨w.heap.size, 0, none⟩) 2 (some ⟨w.heap.size + 1, 0, none⟩) 2 (some ⟨w.heap.size + 1 + 1 + 1, 0, none⟩) 1 [0] _ r1 r2 r3 (by decide) (by decide) (by decide)).mono ?_
  rw [fv1]
  rintro e w1 ⟨v1, rfl, I1, hb1⟩
  have B1 := B0.below hb1
  have F1 := frz_on F0 hb1 (by omega)
  have r1 := r1.below hb1
  have r2 := r2.below hb1
  have b1 := bstep b0 hb1
  have z1 := hb1.size
  rw [← z0] at z1 I1
  have J1 := I1.keep (w' := w1.setCell ⟨w.heap.size + 1 + 1, 0, none⟩ (.int .i64 2)) fun g e => Below.heap_setCell w1 ⟨w.heap.size + 1 + 1, 0, none⟩ _ g (by have := (I1.lt e).1; simp; omega)
  have b2 := bstep (b1.setCell (p := ⟨w.heap.size + 1 + 1, 0, none⟩) (by simp; omega) (.int .i64 2)) (ballo _ (.cells #[.int .i64 0, .int .i64 0, .int .i64 0] 3))
  have r1 := (r1.under ((Below.refl (w.heap.size + 2) w1).setCell (p := ⟨w.heap.size + 1 + 1, 0, none⟩) (by simp) (.int .i64 2)) (by rintro x h; cases h; simp)).below (ballo _ (.cells #[.int .i64 0, .int .i64 0, .int .i64 0] 3))
  have r2 := (r2.under ((Below.refl (w.heap.size + 2) w1).setCell (p := ⟨w.heap.size + 1 + 1, 0, none⟩) (by simp) (.int .i64 2)) (by rintro x h; cases h; simp)).below (ballo _ (.cells #[.int .i64 0, .int .i64 0, .int .i64 0] 3))
  have r3 := RdL.lit (q := .i64) (t := 3) (w1.setCell ⟨w.heap.size + 1 + 1, 0, none⟩ (.int .i64 2)) [0, 0, 0] #[.int .i64 0, .int .i64 0, .int .i64 0] (by decide) rfl
  rw [World.size_setCell] at r3
  obtain ⟨av, cv, rfl, -, -, -, S1, -⟩ := J1.shape
  have S1 := S1.below (ballo _ (.cells #[.int .i64 0, .int .i64 0, .int .i64 0] 3))
  obtain ⟨p0, p1, p2, p3, p4, p5⟩ := B1
  clear I1 hb1 b0 B0 F0 z0 J1
  go_wp2_with fail
  refine (run_any mM (some ⟨w.heap.size, 0, none⟩) 2 (some ⟨w.heap.size + 1, 0, none⟩) 2 (some ⟨w1.heap.size, 0, none⟩) 3 [0, 0, 0] _ r1 r2 r3 (by decide) (by decide) (by decide)).mono ?_
  rw [fv2]
  rintro e w2 ⟨v2, rfl, I2, hb2⟩
  have b3 := bstep b2 hb2
  have S2 := S1.below hb2
  obtain ⟨av2, cv2, rfl, -, -, -, T2, -⟩ := I2.shape
  clear I2 hb2 r1 r2 r3 S1 p0 p1 p2 p3 p4 p5 F1 b1 b2
  go_wp2_with fail
  refine (mcheck_any mc0 none 0 none 0 w2 (RdL.nil _ _ _) (RdL.nil _ _ _) (by decide) (by decide)).mono ?_
  rw [mv0]
  rintro e w3 ⟨rfl, hb3⟩
  have b4 := bstep b3 hb3
  have S3 := (S2.below hb3).below (ballo w3 (.cells #[.int .i64 1] 3))
  have T3 := T2.below hb3
  clear hb3 S2 T2 b3
  go_wp2_with (go_at_call 14; refine (num_any _ _).mono ?_; rintro e w' ⟨rfl, rfl⟩)
  refine (same_list av (some ⟨_, 0, none⟩) cv 1 [1] [1] _ S3 (RdL.one _ 1) (by decide)).mono ?_
  rw [show decide (([1] : List Int) = [1]) = true from rfl]
  rintro e w4 ⟨rfl, hb4⟩
  have b5 := bstep (balloc b4 (.cells #[.int .i64 1] 3)) hb4
  have T4 := ((T3.below (ballo _ (.cells #[.int .i64 1] 3))).below hb4).below (ballo w4 (.cells #[.int .i64 0, .int .i64 1, .int .i64 0] 3))
  clear hb4 T3 S3 b4
  go_wp2_with fail
  refine (same_list av2 (some ⟨w4.heap.size, 0, none⟩) cv2 3 [0, 1, 0] [0, 1, 0] (w4.alloc (.cells #[.int .i64 0, .int .i64 1, .int .i64 0] 3)) T4 (RdL.lit w4 [0, 1, 0] _ (by decide) rfl) (by decide)).mono ?_
  rw [show decide (([0, 1, 0] : List Int) = [0, 1, 0]) = true from rfl]
  rintro e w5 ⟨rfl, hb5⟩
  have b6 := bstep (balloc b5 _) hb5
  clear hb5 b5 T4
  go_wp2_with (go_at_call 14; refine (num_any _ _).mono ?_; rintro e w' ⟨rfl, rfl⟩)
  go_ret
  exact ⟨rfl, b6⟩

end Go.Proofs.Yteiembcgmakhgaa
