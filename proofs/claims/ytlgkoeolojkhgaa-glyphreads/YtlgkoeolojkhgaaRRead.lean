/-
  What the reference's Read returns: the same as the program's.
-/
import Derived.Test.YtlgkoeolojkhgaaGRead
import Derived.Test.YtlgkoeolojkhgaaRParse
namespace Go.Proofs.Ytlgkoeolojkhgaa
open Go.RowKit

set_option maxRecDepth 100000 in
set_option maxHeartbeats 2000000 in
theorem RRead_any (a0 : Option Addr) (c0 : Nat) (names : List Int) (s : ByteArray) (w : World) (hr0 : RdL .i32 w a0 names) (hn : names.length ≤ maxLen) (hs : s.size ≤ 9223372036854775807) :
    Calls Try.prog 15 #[.slice a0 names.length c0, .string s] w fun e w' => ∃ v, e = .returned (.tuple #[v, .int .i64 (rdsV names s).2.1, .int .i64 (rdsV names s).2.2]) ∧ OwnL .i64 3 w' w.heap.size v (rdsV names s).1 ∧ Below w.heap.size w w' := by
  go_enter Try.func15, Try.ntmps15
  go_wp2
  go_loopw [7, 8] (fun v i wr => ∃ (pos fuel : Nat) (acc : List Int), i = .int .i64 pos ∧ pos ≤ s.size ∧ OwnL .i64 3 wr w.heap.size v acc ∧ Below w.heap.size w wr ∧ Hid (rds names s fuel pos acc = rdsV names s) ∧ s.size ≤ pos + fuel ∧ acc.length ≤ 4096) (fun _ i _ => s.size - (intOf i).toNat)
  case atStart => exact ⟨0, s.size, [], rfl, by omega, OwnL.nil _ _ _ _, Below.refl _ _, hide rfl, by omega, by simp⟩
  case round =>
    obtain ⟨pos, fuel, acc, rfl, hps, hI, hbw, H, hfu, hal⟩ := hrel
    obtain ⟨a, c, rfl, hnil, hlc, hcm, -, -⟩ := hI.shape
    have hsz := hbw.size
    have hrd := hr0.below hbw
    by_cases hp : pos < s.size
    · have hp2 : (pos : Int) < (s.size : Int) := by omega
      have hwd := wd_pos s pos
      have hwi := wd_in s pos hp
      obtain ⟨f, rfl⟩ : ∃ f, fuel = f + 1 := ⟨fuel - 1, by omega⟩
      by_cases hl : acc.length = 4096
      · have H1 := hide ((rds_long (names := names) (f := f) hp hl).symm.trans (unhide H))
        have hl2 : ((acc.length : Int) == 4096) = true := by simp [hl]
        clear hl
        go_wp2
        go_ret3
        exact ⟨_, ret_three rfl (by rw [← unhide H1]) (by rw [← unhide H1]), by rw [← unhide H1]; exact OwnL.nil _ _ _ _, hbw⟩
      have hl2 : ((acc.length : Int) == 4096) = false := by simp; omega
      have HL := hide hl
      clear hl
      cases hb : brk s pos
      · have HA := hide (at_yes hb)
        have hwz : ((wd s pos : Int) == 0) = false := by simp; omega
        by_cases hx : 0 ≤ plc (rn s pos) names 0
        · have H1 := hide ((rds_go (names := names) (f := f) hp (unhide HL) hb hx).symm.trans (unhide H))
          go_wp2_with (first | (go_at_call 24; refine (At_any s pos wr hp hs).mono ?_; rw [(unhide HA).1, (unhide HA).2]; rintro e w' ⟨rfl, rfl⟩) | (go_at_call 25; refine (place_any _ _ names _ _ hrd hn).mono ?_; rintro e w' ⟨rfl, rfl⟩) | (at_builtin; refine wpl_pushL eInt rfl (.tmp 34) (.tmp 38) rfl w.heap.size _ acc rfl (hI.alloc _) (some ⟨w'.heap.size, 0, none⟩) 1 [plc (rn s pos) names 0] rfl (RdL.one _ _) (by intro h; cases h) (by simp only [List.length_cons, List.length_nil]; omega) (by simp; omega) ?_; intro v2 w2 hown2 hb2 _))
          go_roundw
          case rel =>
            have hl := unhide HL
            refine ⟨pos + wd s pos, f, acc ++ [plc (rn s pos) names 0], by go_num, hwi, hown2, (balloc' hbw _).trans hb2, H1, by omega, by simp only [List.length_append, List.length_cons, List.length_nil]; omega⟩
          case measure => simp [intOf]; omega
        · have H1 := hide ((rds_rune (names := names) (f := f) hp (unhide HL) (.inr hx)).symm.trans (unhide H))
          go_wp2_with (first | (go_at_call 24; refine (At_any s pos wr hp hs).mono ?_; rw [(unhide HA).1, (unhide HA).2]; rintro e w' ⟨rfl, rfl⟩) | (go_at_call 25; refine (place_any _ _ names _ _ hrd hn).mono ?_; rintro e w' ⟨rfl, rfl⟩))
          go_ret3
          exact ⟨_, ret_three rfl (by rw [← unhide H1]) (by rw [← unhide H1]), by rw [← unhide H1]; exact OwnL.nil _ _ _ _, hbw⟩
      · have HA := hide (at_none hb)
        have H1 := hide ((rds_rune (names := names) (f := f) hp (unhide HL) (.inl hb)).symm.trans (unhide H))
        go_wp2_with (go_at_call 24; refine (At_any s pos wr hp hs).mono ?_; rw [(unhide HA).1, (unhide HA).2]; rintro e w' ⟨rfl, rfl⟩)
        go_ret3
        exact ⟨_, ret_three rfl (by rw [← unhide H1]) (by rw [← unhide H1]), by rw [← unhide H1]; exact OwnL.nil _ _ _ _, hbw⟩
    · have H1 := hide ((rds_end (names := names) hp).symm.trans (unhide H))
      go_wp2
      go_ret3
      exact ⟨_, ret_three rfl (by rw [← unhide H1]) (by rw [← unhide H1]), by rw [← unhide H1]; exact hI, hbw⟩

end Go.Proofs.Ytlgkoeolojkhgaa
