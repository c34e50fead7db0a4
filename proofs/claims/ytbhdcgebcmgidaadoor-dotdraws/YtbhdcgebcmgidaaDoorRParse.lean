/-
  What the reference's Parse returns: the same as the program's.
-/
import Derived.Test.YtbhdcgebcmgidaaDoorGParseW
import Derived.Test.YtbhdcgebcmgidaaDoorRRune
namespace Go.Proofs.YtbhdcgebcmgidaaDoor
open Go.RowKit

theorem at_yes {s : ByteArray} {i : Nat} (h : brk s i = false) : atC s i = rn s i ∧ atN s i = wd s i := by unfold atC atN; rw [h]; exact ⟨rfl, rfl⟩

set_option maxRecDepth 100000 in
set_option maxHeartbeats 8000000 in
theorem RParse_any (s : ByteArray) (w : World) (hs : s.size ≤ 9223372036854775807) :
    Calls Tryd.prog 24 #[.string s] w fun e w' => ∃ v, e = .returned (.tuple #[v, .int .i64 (prsV s).2.1, .int .i64 (prsV s).2.2]) ∧ OwnL .i32 21 w' w.heap.size v (prsV s).1 ∧ Below w.heap.size w w' := by
  by_cases h0 : s.size = 0
  · have H := hide (show prsV s = ([], 4, 0) by simp [prsV, h0])
    go_enter Tryd.func24, Tryd.ntmps24
    go_wp2
    go_ret3
    exact ⟨_, ret_three rfl (by rw [unhide H]) (by rw [unhide H]; rfl), by rw [unhide H]; exact OwnL.nil _ _ _ _, Below.refl _ _⟩
  · have HP := hide (show prsV s = prs s s.size 0 [] by simp [prsV, h0])
    have hse : ((s.size : Int) == 0) = false := beq_false_of_ne (by omega)
    go_enter Tryd.func24, Tryd.ntmps24
    go_wp2
    go_loopw [5, 6] (fun v i wr => ∃ (pos fuel : Nat) (acc : List Int), i = .int .i64 pos ∧ pos ≤ s.size ∧ OwnL .i32 21 wr w.heap.size v acc ∧ Below w.heap.size w wr ∧ Hid (prs s fuel pos acc = prsV s) ∧ s.size ≤ pos + fuel ∧ acc.length ≤ 64) (fun _ i _ => s.size - (intOf i).toNat)
    case atStart => exact ⟨0, s.size, [], rfl, by omega, OwnL.nil _ _ _ _, Below.refl _ _, hide (unhide HP).symm, by omega, by simp⟩
    case round =>
      obtain ⟨pos, fuel, acc, rfl, hps, hI, hbw, H, hfu, hal⟩ := hrel
      obtain ⟨a, c, rfl, hnil, hlc, hcm, hrd, hblk⟩ := hI.shape
      have hsz := hbw.size
      by_cases hp : pos < s.size
      · have hp2 : (pos : Int) < (s.size : Int) := by omega
        have hwd := wd_pos s pos
        have hwi := wd_in s pos hp
        obtain ⟨f, rfl⟩ : ∃ f, fuel = f + 1 := ⟨fuel - 1, by omega⟩
        cases hb : brk s pos
        · have HA := hide (at_yes hb)
          have hwz : ((wd s pos : Int) == 0) = false := by simp; omega
          have h1s := hide (fun h : fltV (brk s pos) acc (rn s pos) ≠ 0 => (prs_stop (f := f) hp h).symm.trans (unhide H))
          have h1g := hide (fun h : fltV (brk s pos) acc (rn s pos) = 0 => (prs_go (f := f) hp h).symm.trans (unhide H))
          rw [hb] at h1s h1g
          generalize rn s pos = r at *
          by_cases hr1 : r < 33
          · have e : fltV false acc r = 20 := by unfold fltV noName; rw [if_pos (by simp; omega)]
            have H1 := hide (unhide h1s (by rw [e]; decide))
            rw [e] at H1
            clear h1s h1g e
            go_wp2_with (go_at_call 37; refine (At_any s pos wr hp hs).mono ?_; rw [(unhide HA).1, (unhide HA).2]; rintro e w' ⟨rfl, rfl⟩)
            go_ret3
            exact ⟨_, ret_three rfl (by rw [← unhide H1]) (by rw [← unhide H1]), by rw [← unhide H1]; exact OwnL.nil _ _ _ _, hbw⟩
          by_cases hr2 : r = 127
          · have e : fltV false acc r = 20 := by unfold fltV noName; rw [if_pos (by simp; omega)]
            have H1 := hide (unhide h1s (by rw [e]; decide))
            rw [e] at H1
            clear h1s h1g e
            subst hr2
            go_wp2_with (go_at_call 37; refine (At_any s pos wr hp hs).mono ?_; rw [(unhide HA).1, (unhide HA).2]; rintro e w' ⟨rfl, rfl⟩)
            go_ret3
            exact ⟨_, ret_three rfl (by rw [← unhide H1]) (by rw [← unhide H1]), by rw [← unhide H1]; exact OwnL.nil _ _ _ _, hbw⟩
          have hn : noName r = false := by unfold noName; simp; omega
          have hr3 : (r == 127) = false := by simpa using hr2
          clear hr2
          by_cases hpl : 0 ≤ plc r acc 0
          · have e : fltV false acc r = 21 := by simp [fltV, hn, hpl]
            have H1 := hide (unhide h1s (by rw [e]; decide))
            rw [e] at H1
            clear h1s h1g e hn
            go_wp2_with (first | (go_at_call 37; refine (At_any s pos wr hp hs).mono ?_; rw [(unhide HA).1, (unhide HA).2]; rintro e w' ⟨rfl, rfl⟩) | (go_at_call 38; refine (place_any _ _ acc _ _ hrd (by unfold maxLen; omega)).mono ?_; rintro e w' ⟨rfl, rfl⟩))
            go_ret3
            exact ⟨_, ret_three rfl (by rw [← unhide H1]) (by rw [← unhide H1]), by rw [← unhide H1]; exact OwnL.nil _ _ _ _, hbw⟩
          by_cases hl : acc.length = 64
          · have e : fltV false acc r = 3 := by simp [fltV, hn, hpl, hl]
            have H1 := hide (unhide h1s (by rw [e]; decide))
            rw [e] at H1
            have hl2 : ((acc.length : Int) == 64) = true := by simp [hl]
            clear h1s h1g e hn hl
            go_wp2_with (first | (go_at_call 37; refine (At_any s pos wr hp hs).mono ?_; rw [(unhide HA).1, (unhide HA).2]; rintro e w' ⟨rfl, rfl⟩) | (go_at_call 38; refine (place_any _ _ acc _ _ hrd (by unfold maxLen; omega)).mono ?_; rintro e w' ⟨rfl, rfl⟩))
            go_ret3
            exact ⟨_, ret_three rfl (by rw [← unhide H1]) (by rw [← unhide H1]), by rw [← unhide H1]; exact OwnL.nil _ _ _ _, hbw⟩
          · have e : fltV false acc r = 0 := by simp [fltV, hn, hpl, hl]
            have H1 := hide (unhide h1g e)
            have hl2 : ((acc.length : Int) == 64) = false := by simp; omega
            have hl3 : acc.length < 64 := by omega
            clear h1s h1g e hn hl hal
            go_wp2_with (first | (go_at_call 37; refine (At_any s pos wr hp hs).mono ?_; rw [(unhide HA).1, (unhide HA).2]; rintro e w' ⟨rfl, rfl⟩) | (go_at_call 38; refine (place_any _ _ acc _ _ hrd (by unfold maxLen; omega)).mono ?_; rintro e w' ⟨rfl, rfl⟩) | (at_builtin; refine wpl_pushL e32 rfl (.tmp 42) (.tmp 44) rfl w.heap.size _ acc rfl (hI.alloc _) (some ⟨w'.heap.size, 0, none⟩) 1 [r] rfl (RdL.one _ _) (by intro h; cases h) (by simp only [List.length_cons, List.length_nil]; omega) (by simp; omega) ?_; intro v2 w2 hown2 hb2 _))
            go_roundw
            case rel => exact ⟨pos + wd s pos, f, acc ++ [r], by go_num, hwi, hown2, (balloc' hbw _).trans hb2, H1, by omega, by simp only [List.length_append, List.length_cons, List.length_nil]; omega⟩
            case measure => simp [intOf]; omega
        · have HA := hide (at_none hb)
          have e : fltV true acc (rn s pos) = 20 := by unfold fltV; rw [if_pos (.inl rfl)]
          have H1 := hide ((prs_stop (f := f) (acc := acc) hp (by rw [hb, e]; decide)).symm.trans (unhide H))
          rw [hb, e] at H1
          clear e
          go_wp2_with (go_at_call 37; refine (At_any s pos wr hp hs).mono ?_; rw [(unhide HA).1, (unhide HA).2]; rintro e w' ⟨rfl, rfl⟩)
          go_ret3
          exact ⟨_, ret_three rfl (by rw [← unhide H1]) (by rw [← unhide H1]), by rw [← unhide H1]; exact OwnL.nil _ _ _ _, hbw⟩
      · have H1 := hide ((prs_end hp).symm.trans (unhide H))
        go_wp2
        go_ret3
        exact ⟨_, ret_three rfl (by rw [← unhide H1]) (by rw [← unhide H1]), by rw [← unhide H1]; exact hI, hbw⟩

end Go.Proofs.YtbhdcgebcmgidaaDoor
