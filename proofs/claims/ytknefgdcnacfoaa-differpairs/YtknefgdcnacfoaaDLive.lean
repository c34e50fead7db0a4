/-
  The page's example of layer 7: live returns true in every world, and turns nothing that was there.
-/
import Derived.Test.YtknefgdcnacfoaaDCtr
namespace Go.Proofs.Ytknefgdcnacfoaa
open Go.RowKit

theorem num_any (e : Int) (w : World) : Calls Try.prog 15 #[.int .i64 e] w fun x w' => x = .returned (.int .i64 e) ∧ w' = w := by
  go_enter Try.func15, Try.ntmps15
  go_wp2
  go_ret
  exact ⟨rfl, rfl⟩
def lA : Mc := ⟨1, 1, 2, 2, [1, 0], [0, 1]⟩
def lB : Mc := ⟨1, 1, 2, 3, [1, 2, 0], [0, 1, 1]⟩
theorem lAB : SeR lA lB (some [0, 0]) := by
  refine ⟨fun _ => ⟨?_, ?_, fun v hv ht ha => ?_⟩, fun h => absurd (by decide) h⟩
  · intro x hx
    simp at hx
    subst hx
    decide
  · unfold tls; decide
  · have hk : ∀ x ∈ v, x = 0 := fun x hx => by have := hv x hx; have e : lA.k = 1 := rfl; omega
    match v, hk, ht, ha with
    | [], _, ht, _ => exact ht (by decide)
    | [x], hk, ht, _ => rw [hk x (by simp)] at ht; exact ht (by decide)
    | [x, y], hk, _, ha =>
      rw [hk x (by simp), hk y (by simp)] at ha
      exact Ahd.irrefl _ ha
    | x :: y :: z :: r, _, _, ha =>
      rcases ha with h | ⟨h, _⟩ <;> simp at h <;> omega
theorem lA1 : ApR lA 0 1 (some []) := ⟨fun _ => sep_now rfl ⟨rfl, by decide⟩, fun h => absurd (by decide) h⟩
theorem lAA : SeR lA lA none := ⟨fun _ _ _ ht => ht rfl, fun _ => rfl⟩
theorem lE1 : seE lA lB = 0 := by decide
theorem lE2 : seE lA lA = 0 := by decide
theorem lE3 : apE lA 0 1 = 0 := by decide

set_option maxRecDepth 100000 in
set_option maxHeartbeats 2000000 in
theorem live_any (C : DCtr) (w : World) : Calls Try.prog 9 #[] w fun e w' => e = .returned (.bool true) ∧ Below w.heap.size w w' := by
  obtain ⟨wa, wae⟩ : ∃ wa, wa = ((w.alloc (.cells #[.int .i64 1, .int .i64 0] 3)).alloc (.cells #[.int .i64 0, .int .i64 1] 3)).alloc (.cells #[.int .i64 1, .int .i64 1, .int .i64 2, .int .i64 2, .slice (some ⟨w.heap.size, 0, none⟩) 2 2, .slice (some ⟨w.heap.size + 1, 0, none⟩) 2 2] 24) := ⟨_, rfl⟩
  have ba : Below w.heap.size w wa := by rw [wae]; exact bstep (bstep (ballo _ _) (ballo _ _)) (ballo _ _)
  have ra1 : RdL .i64 wa (some ⟨w.heap.size, 0, none⟩) [1, 0] := by
    rw [wae]; exact (RdL.lit (q := .i64) (t := 3) w [1, 0] #[.int .i64 1, .int .i64 0] (by decide) rfl).below (bstep (ballo _ _) (ballo _ _))
  have ra2 : RdL .i64 wa (some ⟨w.heap.size + 1, 0, none⟩) [0, 1] := by
    have := (RdL.lit (q := .i64) (t := 3) (w.alloc (.cells #[.int .i64 1, .int .i64 0] 3)) [0, 1] #[.int .i64 0, .int .i64 1] (by decide) rfl).below (ballo _ (.cells #[.int .i64 1, .int .i64 1, .int .i64 2, .int .i64 2, .slice (some ⟨w.heap.size, 0, none⟩) 2 2, .slice (some ⟨w.heap.size + 1, 0, none⟩) 2 2] 24))
    rw [World.size_alloc] at this
    rw [wae]; exact this
  have BA : Box wa (w.heap.size + 1 + 1) lA (some ⟨w.heap.size, 0, none⟩) 2 (some ⟨w.heap.size + 1, 0, none⟩) 2 := by
    have := Box.alloc ((w.alloc (.cells #[.int .i64 1, .int .i64 0] 3)).alloc (.cells #[.int .i64 0, .int .i64 1] 3)) lA (some ⟨w.heap.size, 0, none⟩) 2 (some ⟨w.heap.size + 1, 0, none⟩) 2 24
    simp only [World.size_alloc] at this
    rw [wae]; exact this
  have za : wa.heap.size = w.heap.size + 1 + 1 + 1 := by rw [wae]; simp
  obtain ⟨wb, wbe⟩ : ∃ wb, wb = ((wa.alloc (.cells #[.int .i64 1, .int .i64 2, .int .i64 0] 3)).alloc (.cells #[.int .i64 0, .int .i64 1, .int .i64 1] 3)).alloc (.cells #[.int .i64 1, .int .i64 1, .int .i64 2, .int .i64 3, .slice (some ⟨w.heap.size + 1 + 1 + 1, 0, none⟩) 3 3, .slice (some ⟨w.heap.size + 1 + 1 + 1 + 1, 0, none⟩) 3 3] 24) := ⟨_, rfl⟩
  have bb : Below wa.heap.size wa wb := by rw [wbe]; exact bstep (bstep (ballo _ _) (ballo _ _)) (ballo _ _)
  have rb1 : RdL .i64 wb (some ⟨w.heap.size + 1 + 1 + 1, 0, none⟩) [1, 2, 0] := by
    have := (RdL.lit (q := .i64) (t := 3) wa [1, 2, 0] #[.int .i64 1, .int .i64 2, .int .i64 0] (by decide) rfl).below (bstep (ballo _ (.cells #[.int .i64 0, .int .i64 1, .int .i64 1] 3)) (ballo _ (.cells #[.int .i64 1, .int .i64 1, .int .i64 2, .int .i64 3, .slice (some ⟨w.heap.size + 1 + 1 + 1, 0, none⟩) 3 3, .slice (some ⟨w.heap.size + 1 + 1 + 1 + 1, 0, none⟩) 3 3] 24)))
    rw [za] at this
    rw [wbe]; exact this
  have rb2 : RdL .i64 wb (some ⟨w.heap.size + 1 + 1 + 1 + 1, 0, none⟩) [0, 1, 1] := by
    have := (RdL.lit (q := .i64) (t := 3) (wa.alloc (.cells #[.int .i64 1, .int .i64 2, .int .i64 0] 3)) [0, 1, 1] #[.int .i64 0, .int .i64 1, .int .i64 1] (by decide) rfl).below (ballo _ (.cells #[.int .i64 1, .int .i64 1, .int .i64 2, .int .i64 3, .slice (some ⟨w.heap.size + 1 + 1 + 1, 0, none⟩) 3 3, .slice (some ⟨w.heap.size + 1 + 1 + 1 + 1, 0, none⟩) 3 3] 24))
    rw [World.size_alloc, za] at this
    rw [wbe]; exact this
  have BB : Box wb (w.heap.size + 1 + 1 + 1 + 1 + 1) lB (some ⟨w.heap.size + 1 + 1 + 1, 0, none⟩) 3 (some ⟨w.heap.size + 1 + 1 + 1 + 1, 0, none⟩) 3 := by
    have := Box.alloc ((wa.alloc (.cells #[.int .i64 1, .int .i64 2, .int .i64 0] 3)).alloc (.cells #[.int .i64 0, .int .i64 1, .int .i64 1] 3)) lB (some ⟨w.heap.size + 1 + 1 + 1, 0, none⟩) 3 (some ⟨w.heap.size + 1 + 1 + 1 + 1, 0, none⟩) 3 24
    simp only [World.size_alloc, za] at this
    rw [wbe]; exact this
  have MA0 : MA wb lA (some ⟨w.heap.size, 0, none⟩) 2 (some ⟨w.heap.size + 1, 0, none⟩) 2 := ⟨ra1.below bb, ra2.below bb, by decide, by decide, by decide, by decide, by decide⟩
  have MB0 : MA wb lB (some ⟨w.heap.size + 1 + 1 + 1, 0, none⟩) 3 (some ⟨w.heap.size + 1 + 1 + 1 + 1, 0, none⟩) 3 := ⟨rb1, rb2, by decide, by decide, by decide, by decide, by decide⟩
  have b0 := bstep ba bb
  have BA0 := BA.below bb
  rw [wae] at wbe
  have HMA := hide MA0
  have HMB := hide MB0
  have HBA := hide BA0
  have HBB := hide BB
  have HB := hide b0
  have HC := hide (C.sep lA lB _ _ _ _ _ _ _ _ wb _ MA0 MB0 lAB)
  unfold mval at HC
  clear MA0 MB0 BA0 BB b0 BA rb1 rb2 ra1 ra2 ba bb za wae
  go_enter Try.func9, Try.ntmps9
  go_wp2_with fail
  rw [← wbe]
  refine (unhide HC).mono ?_
  rintro e w1 ⟨v, rfl, hv, hb1⟩
  rw [lE1]
  have hv : OwnL .i64 3 w1 wb.heap.size v [0, 0] := hv
  obtain ⟨av, cv, ev, -, -, -, rv, -⟩ := hv.shape
  subst ev
  have HB1 := hide (bstep (unhide HB) hb1)
  have HMA1 := hide ((unhide HMA).below hb1)
  have HBA1 := hide ((unhide HBA).below hb1)
  clear hv hb1 HC wbe HB HMA HMB HBA HBB
  obtain ⟨p0, p1, p2, p3, p4, p5⟩ := unhide HBA1
  have HC := hide (C.ap lA _ _ _ _ 0 1 w1 _ (unhide HMA1) lA1)
  unfold mval at HC
  go_wp2_with fail
  refine (unhide HC).mono ?_
  rintro e w2 ⟨v, rfl, hv, hb2⟩
  rw [lE3]
  have hv : OwnL .i64 3 w2 w1.heap.size v [] := hv
  obtain ⟨av2, cv2, ev, -, -, -, -, -⟩ := hv.shape
  subst ev
  have HB2 := hide (bstep (unhide HB1) hb2)
  have HMA2 := hide ((unhide HMA1).below hb2)
  have HBA2 := hide ((unhide HBA1).below hb2)
  have rv := rv.below hb2
  clear hv hb2 HC HB1 HMA1 HBA1 p0 p1 p2 p3 p4 p5
  obtain ⟨p0, p1, p2, p3, p4, p5⟩ := unhide HBA2
  have HC := hide (C.eq lA lA _ _ _ _ _ _ _ _ w2 _ (unhide HMA2) (unhide HMA2) lAA)
  unfold mval at HC
  go_wp2_with fail
  refine (unhide HC).mono ?_
  rintro e w3 ⟨rfl, hb3⟩
  rw [lE2]
  have HB3 := hide (bstep (unhide HB2) hb3)
  have rv := rv.below hb3
  clear hb3 HC HB2 HMA2 HBA2 p0 p1 p2 p3 p4 p5
  have c3 := ballo w3 (.cells #[.int .i64 0, .int .i64 0] 3)
  go_wp2_with (go_at_call 15; refine (num_any _ _).mono ?_; rintro e w' ⟨rfl, hw'⟩; subst w')
  refine (same_list av (some ⟨w3.heap.size, 0, none⟩) cv 2 [0, 0] [0, 0] (w3.alloc (.cells #[.int .i64 0, .int .i64 0] 3)) (rv.below c3) (RdL.lit w3 [0, 0] _ (by decide) rfl) (by decide)).mono ?_
  rw [show decide (([0, 0] : List Int) = [0, 0]) = true from rfl]
  rintro e w4 ⟨rfl, hb4⟩
  have b4 := bstep (unhide HB3) (bstep c3 hb4)
  go_wp2
  go_ret
  exact ⟨rfl, b4⟩
end Go.Proofs.Ytknefgdcnacfoaa
