/-
  The page's example of layer 9: live returns true in every world, and turns nothing that was there.
-/
import Derived.Test.YtbhdcgebcmgidaaDoorK26
import Derived.Test.YtbhdcgebcmgidaaDoorTCv
namespace Go.Proofs.YtbhdcgebcmgidaaDoor
open Go.RowKit

theorem num_any (e : Int) (w : World) : Calls Tryd.prog 14 #[.int .i64 e] w fun x w' => x = .returned (.int .i64 e) ∧ w' = w := by
  go_enter Tryd.func14, Tryd.ntmps14
  go_wp2
  go_ret
  exact ⟨rfl, rfl⟩
def lD : Mc := ⟨1, 1, 2, 1, [0], [1]⟩
theorem lD_text : dtV lD [97] = ([100,105,103,114,97,112,104,32,109,32,123,10,32,32,114,97,110,107,100,105,114,61,76,82,10,32,32,115,116,97,114,116,32,91,115,104,97,112,101,61,112,111,105,110,116,93,10,32,32,48,32,91,115,104,97,112,101,61,100,111,117,98,108,101,99,105,114,99,108,101,93,10,32,32,115,116,97,114,116,32,45,62,32,48,10,32,32,48,32,45,62,32,48,32,91,108,97,98,101,108,61,34,97,34,93,10,125,10], 0) := by
  have h0 : Lib.itoa 0 = [48] := by unfold Lib.itoa; rw [if_neg (by decide), show (0 : Int).toNat = 0 from rfl, Lib.decDigits, dif_pos (by decide)]; rfl
  rw [dtV_ok (by decide) (by decide) (by decide)]
  have hl : lbL [97] lD.k.toNat = [[97]] := by decide
  rw [hl]
  simp [dtT, dtL, dtS, dtW, dtA, dtO, lD, ind, dHead, dRank, dStart, dGo, dTwo, dArr, dLab, dEnd, List.range_succ, h0]

set_option maxRecDepth 100000 in
set_option maxHeartbeats 4000000 in
theorem live_any (w : World) (gp : Gp w) : Calls Tryd.prog 7 #[] w fun e w' => e = .returned (.bool true) ∧ Below w.heap.size w w' := by
  have ba : Below w.heap.size w (((w.alloc (.cells #[.int .i64 0] 3)).alloc (.cells #[.int .i64 1] 3)).alloc (.cells #[.int .i32 97] 21)) := bstep (bstep (ballo _ _) (ballo _ _)) (ballo _ _)
  have r1 : RdL .i64 (((w.alloc (.cells #[.int .i64 0] 3)).alloc (.cells #[.int .i64 1] 3)).alloc (.cells #[.int .i32 97] 21)) (some ⟨w.heap.size, 0, none⟩) [0] := (RdL.one w 0).below (bstep (ballo _ _) (ballo _ _))
  have r2 : RdL .i64 (((w.alloc (.cells #[.int .i64 0] 3)).alloc (.cells #[.int .i64 1] 3)).alloc (.cells #[.int .i32 97] 21)) (some ⟨w.heap.size + 1, 0, none⟩) [1] := by
    have := (RdL.one (q := .i64) (t := 3) (w.alloc (.cells #[.int .i64 0] 3)) 1).below (ballo _ (.cells #[.int .i32 97] 21))
    rw [World.size_alloc] at this
    exact this
  have r3 : RdL .i32 (((w.alloc (.cells #[.int .i64 0] 3)).alloc (.cells #[.int .i64 1] 3)).alloc (.cells #[.int .i32 97] 21)) (some ⟨w.heap.size + 1 + 1, 0, none⟩) [97] := by
    have := RdL.one (q := .i32) (t := 21) ((w.alloc (.cells #[.int .i64 0] 3)).alloc (.cells #[.int .i64 1] 3)) 97
    simp only [World.size_alloc] at this
    exact this
  have hex := ddot_any lD (some ⟨w.heap.size, 0, none⟩) 1 (some ⟨w.heap.size + 1, 0, none⟩) 1 (some ⟨w.heap.size + 1 + 1, 0, none⟩) 1 [97] _ r1 r2 r3 (by decide) (by decide) (gp.below ba)
  unfold DtPost at hex
  rw [lD_text] at hex
  unfold mval at hex
  go_enter Tryd.func7, Tryd.ntmps7
  go_wp2_with fail
  refine hex.mono ?_
  rintro e w1 ⟨v1, rfl, hown1, hb1⟩
  have b1 := bstep ba hb1
  obtain ⟨a1, c1, rfl, hnil1, -, -, hrd1, -⟩ := hown1.shape
  rw [zs_len] at hnil1 ⊢
  have hcv : (convert 29 9 (.slice a1 108 c1)).run Tryd.prog w1 = .ok (.string ⟨#[100, 105, 103, 114, 97, 112, 104, 32, 109, 32, 123, 10, 32, 32, 114, 97, 110, 107, 100, 105, 114, 61, 76, 82, 10, 32, 32, 115, 116, 97, 114, 116, 32, 91, 115, 104, 97, 112, 101, 61, 112, 111, 105, 110, 116, 93, 10, 32, 32, 48, 32, 91, 115, 104, 97, 112, 101, 61, 100, 111, 117, 98, 108, 101, 99, 105, 114, 99, 108, 101, 93, 10, 32, 32, 115, 116, 97, 114, 116, 32, 45, 62, 32, 48, 10, 32, 32, 48, 32, 45, 62, 32, 48, 32, 91, 108, 97, 98, 101, 108, 61, 34, 97, 34, 93, 10, 125, 10]⟩) w1 := conv_rd hrd1 hnil1
  clear hex hrd1
  go_wp2_with (go_at_call 14; refine (num_any _ _).mono ?_; rintro e wz ⟨rfl, hwz⟩; subst wz)
  go_ret
  exact ⟨rfl, b1⟩

end Go.Proofs.YtbhdcgebcmgidaaDoor
