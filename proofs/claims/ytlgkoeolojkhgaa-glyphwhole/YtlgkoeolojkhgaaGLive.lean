/-
  The page's examples: live returns true in every world, and turns nothing that was there.
-/
import Derived.Test.YtlgkoeolojkhgaaGRead
import Derived.Test.YtlgkoeolojkhgaaGShow
import Derived.Test.YtlgkoeolojkhgaaGDefault
namespace Go.Proofs.Ytlgkoeolojkhgaa
open Go.RowKit

theorem bstep {w w1 w2 : World} (h : Below w.heap.size w w1) (hb : Below w1.heap.size w1 w2) : Below w.heap.size w w2 := h.trans (hb.mono h.size)
theorem balloc {w w1 : World} (h : Below w.heap.size w w1) (o : Obj) : Below w.heap.size w (w1.alloc o) := h.alloc h.size o

theorem num_any (e : Int) (w : World) : Calls Try.prog 13 #[.int .i64 e] w fun x w' => x = .returned (.int .i64 e) ∧ w' = w := by
  go_enter Try.func13, Try.ntmps13
  go_wp2
  go_ret
  exact ⟨rfl, rfl⟩

theorem pv1 : prsV ⟨#[97, 98]⟩ = ([97, 98], 0, 2) := by decide
theorem pv2 : prsV ⟨#[97, 98, 97]⟩ = ([], 21, 2) := by decide
theorem rv1 : rdsV [97, 98] ⟨#[98, 97]⟩ = ([1, 0], 0, 2) := by decide
theorem sv1 : shwV [97, 98] [1, 0] = ([98, 97], 0) := by decide
theorem dv1 : dflV 3 = [97, 98, 99] := by decide
theorem f2 : ∀ j, j < ([97, 98] : List Int).length → Fit32 (([97, 98] : List Int).getD j 0) := by
  intro j hj
  rcases (show j = 0 ∨ j = 1 by simp at hj; omega) with rfl | rfl
  · exact fit32 (by decide) (by decide)
  · exact fit32 (by decide) (by decide)

set_option maxRecDepth 100000 in
theorem live_any (w : World) : Calls Try.prog 9 #[] w fun e w' => e = .returned (.bool true) ∧ Below w.heap.size w w' := by
  go_enter Try.func9, Try.ntmps9
  go_wp2_with fail
  refine (Parse_any _ w).mono ?_
  rw [pv1]
  rintro e w1 ⟨v1, rfl, hI1, B1⟩
  obtain ⟨a1, c1, rfl, -, -, -, R1, -⟩ := hI1.shape
  clear hI1
  go_wp2_with fail
  refine (Parse_any _ w1).mono ?_
  rw [pv2]
  rintro e w2 ⟨v2, rfl, -, hb2⟩
  have B2 := bstep B1 hb2
  have R2 := R1.below hb2
  clear R1 B1 hb2
  go_wp2_with fail
  refine (Read_any a1 c1 [97, 98] ⟨#[98, 97]⟩ w2 R2 (by decide) f2).mono ?_
  rw [rv1]
  rintro e w3 ⟨v3, rfl, hI3, hb3⟩
  have B3 := bstep B2 hb3
  have R3 := R2.below hb3
  obtain ⟨a3, c3, rfl, -, -, -, S3, -⟩ := hI3.shape
  clear R2 B2 hb3 hI3
  go_wp2_with fail
  refine (Show_any a1 a3 c1 c3 [97, 98] [1, 0] w3 R3 S3 (by decide) f2).mono ?_
  rw [sv1]
  rintro e w4 ⟨rfl, hb4⟩
  have B4 := bstep B3 hb4
  obtain ⟨b, off, rfl, hc⟩ := (S3.below hb4).at (i := 0) (by decide)
  have hc0 : w4.cell? ⟨b, off, none⟩ = some (.int .i64 1) := hc 0 (by decide)
  clear hc R3 S3 B3 hb4
  go_wp2_with (first | (go_at_call 13; refine (num_any _ _).mono ?_; rintro e w' ⟨rfl, rfl⟩) | (go_at_call 21; refine (Default_any 3 _).mono ?_; rw [dv1]; rintro e w5 ⟨v5, rfl, hI5, hb5⟩; obtain ⟨a5, c5, rfl, -, -, -, -, -⟩ := hI5.shape))
  go_ret
  exact ⟨rfl, bstep B4 hb5⟩

end Go.Proofs.Ytlgkoeolojkhgaa
