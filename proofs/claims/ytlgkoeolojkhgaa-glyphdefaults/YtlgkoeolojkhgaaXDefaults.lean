/-
  The law GlyphDefaults, walked: it returns true, whatever the number.
-/
import Derived.Test.YtlgkoeolojkhgaaGLive
import Derived.Test.YtlgkoeolojkhgaaRDefault
import Derived.Test.YtlgkoeolojkhgaaSeqMore
import Derived.Test.YtlgkoeolojkhgaaArgL
namespace Go.Proofs.Ytlgkoeolojkhgaa
open Go.RowKit

theorem dflV_len (k : Int) : (dflV k).length ≤ 64 := by
  unfold dflV
  split
  · rw [List.length_take, usualL_len]; omega
  · simp

set_option maxRecDepth 100000 in
set_option maxHeartbeats 1000000 in
theorem glyphDefaults_walk (k : Int) (w : World) (_hk : Fits k) :
    Calls Try.prog 6 #[.int .i64 k] w fun e w' => e = .returned (.bool true) ∧ Below w.heap.size w w' := by
  have hle := dflV_len k
  go_enter Try.func6, Try.ntmps6
  go_wp2_with fail
  refine (Default_any k w).mono ?_
  rintro e w1 ⟨v1, rfl, I1, B1⟩
  obtain ⟨a1, c1, rfl, -, -, -, R1, -⟩ := I1.shape
  go_wp2_with fail
  refine (RDefault_any k w1).mono ?_
  rintro e w2 ⟨v2, rfl, hI2, hb2⟩
  obtain ⟨a2, c2, rfl, -, -, -, S2, -⟩ := hI2.shape
  have B2 := bstep B1 hb2
  have R2 := R1.below hb2
  have I2 := I1.grown hb2
  clear I1 B1 R1 hI2
  go_wp2_with fail
  refine (same_runes a1 a2 c1 c2 (dflV k) (dflV k) w2 R2 S2 (by unfold maxLen; omega)).mono ?_
  rw [show decide (dflV k = dflV k) = true from decide_eq_true rfl]
  rintro e w3 ⟨rfl, hb3⟩
  have B3 := bstep B2 hb3
  have I3 := I2.grown hb3
  clear I2 B2 R2 S2 hb2 hb3
  have HK : Hid (dflV k = dflV k) := hide rfl
  generalize hd : (dflV k).length = n at *
  go_wp2
  go_loopw [4] (fun i wr => ∃ (j : Nat) (l : List Int), j ≤ n ∧ i = .int .i64 j ∧ Hid (l.length = n) ∧ OwnL .i32 21 wr w.heap.size (.slice a1 n c1) l ∧ Below w.heap.size w wr) (fun i _ => n - (intOf i).toNat)
  case atStart => exact ⟨0, dflV k, Nat.zero_le _, rfl, hide hd, I3, B3⟩
  case round =>
    obtain ⟨j, l, hj, rfl, HL, hI, hb⟩ := hrel
    by_cases hlt : j < n
    · have hln := unhide HL
      obtain ⟨g, cap, e, hlc, hcm, hBg, hgs, hc, hfr⟩ := hI.pos (by omega)
      have hcj := hc j (by omega)
      have hfj := hfr j
      simp only [Value.slice.injEq] at e
      obtain ⟨rfl, -, rfl⟩ := e
      have hI' := hI
      rw [← hln] at hI'
      have hst := hI'.store j 0
      rw [hln] at hst
      have hlt' : (j : Int) < (n : Int) := by omega
      clear hc hfr hln hI' hd
      go_wp2
      go_roundw
      case rel => exact ⟨j + 1, l.set j 0, by omega, by go_num, hide (by rw [List.length_set]; exact unhide HL), hst, hb.setCell (p := ⟨g, j, none⟩) hBg _⟩
      case measure => simp [intOf]; omega
    · clear hd
      go_wp2_with fail
      refine (Default_any k wr).mono ?_
      rintro e w5 ⟨v5, rfl, hI5, hb5⟩
      obtain ⟨a5, c5, rfl, -, -, -, R5, -⟩ := hI5.shape
      have B5 := bstep hb hb5
      go_wp2_with fail
      refine (RDefault_any k w5).mono ?_
      rintro e w6 ⟨v6, rfl, hI6, hb6⟩
      obtain ⟨a6, c6, rfl, -, -, -, S6, -⟩ := hI6.shape
      have B6 := bstep B5 hb6
      have R6 := R5.below hb6
      clear B5 R5 hI5 hI6
      go_wp2_with fail
      refine (same_runes a5 a6 c5 c6 (dflV k) (dflV k) w6 R6 S6 (by have := dflV_len k; unfold maxLen; omega)).mono ?_
      rw [show decide (dflV k = dflV k) = true from decide_eq_true rfl]
      rintro e w7 ⟨rfl, hb7⟩
      have B7 := bstep B6 hb7
      go_wp2_with (go_at_call 9; refine (live_any _).mono ?_; rintro e w8 ⟨rfl, hb8⟩)
      go_ret
      exact ⟨rfl, bstep B7 hb8⟩

end Go.Proofs.Ytlgkoeolojkhgaa
