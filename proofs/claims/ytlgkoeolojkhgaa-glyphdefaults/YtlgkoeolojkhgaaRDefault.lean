/-
  What the reference's Default returns: the same.
-/
import Derived.Test.YtlgkoeolojkhgaaGDefault
namespace Go.Proofs.Ytlgkoeolojkhgaa
open Go.RowKit

set_option maxRecDepth 100000 in
set_option maxHeartbeats 2000000 in
theorem RDefault_any (k : Int) (w : World) :
    Calls Try.prog 22 #[.int .i64 k] w fun e w' => ∃ v, e = .returned v ∧ OwnL .i32 21 w' w.heap.size v (dflV k) ∧ Below w.heap.size w w' := by
  by_cases h1 : k < 1
  · have H := hide (show dflV k = [] by unfold dflV; rw [if_neg (by omega)])
    go_enter Try.func22, Try.ntmps22
    go_wp2
    go_ret
    exact ⟨_, rfl, by rw [unhide H]; exact OwnL.nil _ _ _ _, Below.refl _ _⟩
  by_cases h2 : 64 < k
  · have H := hide (show dflV k = [] by unfold dflV; rw [if_neg (by omega)])
    go_enter Try.func22, Try.ntmps22
    go_wp2
    go_ret
    exact ⟨_, rfl, by rw [unhide H]; exact OwnL.nil _ _ _ _, Below.refl _ _⟩
  obtain ⟨n, rfl⟩ : ∃ n : Nat, k = n := ⟨k.toNat, by omega⟩
  have H := hide (show dflV n = usualL.take n by unfold dflV; rw [if_pos (by omega), Int.toNat_natCast])
  have hn : n ≤ 64 := by omega
  go_enter Try.func22, Try.ntmps22
  go_wp2
  have hS : ∃ S : ByteArray, S = usual := ⟨_, rfl⟩
  obtain ⟨S, hS⟩ := hS
  have hSz : S.size = 64 := by rw [hS]; rfl
  have HSd := hide (fun i (hi : i < S.size) => show (S[i]'hi).toNat = bt usual i by rw [bt_get S i hi, hS])
  have hS2 : (ByteArray.mk #[97, 98, 99, 100, 101, 102, 103, 104, 105, 106, 107, 108, 109, 110, 111, 112, 113, 114, 115, 116, 117, 118, 119, 120, 121, 122, 65, 66, 67, 68, 69, 70, 71, 72, 73, 74, 75, 76, 77, 78, 79, 80, 81, 82, 83, 84, 85, 86, 87, 88, 89, 90, 48, 49, 50, 51, 52, 53, 54, 55, 56, 57, 45, 95]) = S := hS.symm
  rw [hS2]
  clear hS hS2
  go_loopw [4, 5] (fun v i wr => ∃ pos : Nat, pos ≤ n ∧ i = .int .i64 pos ∧ OwnL .i32 21 wr w.heap.size v (usualL.take pos) ∧ Below w.heap.size w wr) (fun _ i _ => n - (intOf i).toNat)
  case atStart => exact ⟨0, Nat.zero_le _, rfl, OwnL.nil _ _ _ _, Below.refl _ _⟩
  case round =>
    obtain ⟨pos, hps, rfl, hI, hbw⟩ := hrel
    by_cases hp : pos < n
    · have hget := unhide HSd pos (by omega)
      have hb7 : bt usual pos < 128 := (usual_bt pos (by omega)).2
      have HT := hide (take_u (show pos < 64 by omega))
      have htl : (usualL.take pos).length = pos := by rw [List.length_take, usualL_len]; omega
      have hsz := hbw.size
      have I2 := hI.alloc (.cells #[.int .i32 (bt usual pos)] 21)
      generalize bt usual pos = r at *
      go_wp2_with (at_builtin; refine wpl_pushL e32 rfl (.tmp 17) (.tmp 22) rfl w.heap.size _ (usualL.take pos) rfl I2 (some ⟨wr.heap.size, 0, none⟩) 1 [(r : Int)] rfl (RdL.one _ _) (by intro h; cases h) (by simp only [List.length_cons, List.length_nil]; omega) (by simp; omega) ?_; intro v2 w3 hown2 hb2 hg2)
      go_roundw
      case rel => exact ⟨pos + 1, by omega, by go_num, by rw [unhide HT]; exact hown2, (balloc' hbw _).trans hb2⟩
      case measure => simp [intOf]; omega
    · obtain rfl : pos = n := by omega
      go_wp2
      go_ret
      exact ⟨_, rfl, by rw [unhide H]; exact hI, hbw⟩

end Go.Proofs.Ytlgkoeolojkhgaa
