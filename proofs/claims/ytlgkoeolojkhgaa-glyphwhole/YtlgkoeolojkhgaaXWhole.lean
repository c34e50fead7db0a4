/-
  The law GlyphWhole, walked: it returns true, whatever the text and the number.
-/
import Derived.Test.YtlgkoeolojkhgaaGLive
import Derived.Test.YtlgkoeolojkhgaaWhole
import Derived.Test.YtlgkoeolojkhgaaXBack
namespace Go.Proofs.Ytlgkoeolojkhgaa
open Go.RowKit

/-- string(r). -/
theorem conv_runes {w : World} {a : Option Addr} {l : List Int} (h : RdL .i32 w a l) (hn : l.length ≠ 0) (c : Nat) : (convert 23 9 (.slice a l.length c)).run Try.prog w = .ok (.string (runesBytes l)) w := by
  obtain ⟨b, off, rfl, hc⟩ := h.at (i := 0) (by omega)
  have := run_convert_runes w 23 9 21 ⟨b, off, none⟩ l.length c l (Nat.le_refl _) Try.underlying23 Try.underlying21 Try.underlying9 (fun j hj => by rw [add_at]; exact hc j hj)
  rwa [List.take_length] at this

set_option maxRecDepth 100000 in
set_option maxHeartbeats 4000000 in
theorem glyphWhole_walk (s : ByteArray) (k : Int) (w : World) (hs : s.size ≤ maxLen) (_hk : Fits k) :
    Calls Try.prog 8 #[.string s, .int .i64 k] w fun e w' => e = .returned (.bool true) ∧ Below w.heap.size w w' := by
  unfold maxLen at hs
  by_cases hm1 : 20000 < s.size
  · go_enter Try.func8, Try.ntmps8
    go_wp2_with (go_at_call 9; refine (live_any _).mono ?_; rintro e w' ⟨rfl, hb⟩)
    go_ret
    exact ⟨rfl, hb⟩
  go_enter Try.func8, Try.ntmps8
  go_wp2_with fail
  refine (Parse_any s w).mono ?_
  rintro e w1 ⟨v1, rfl, hI1, B1⟩
  obtain ⟨a1, c1, rfl, -, hl1, hm1', R1, -⟩ := hI1.shape
  have hG0 := prsV_good s
  clear hI1
  generalize prsV s = P at *
  obtain ⟨names, e1, at1⟩ := P
  simp only at hG0 hl1 R1 ⊢
  rcases hG0 with ⟨rfl, hG, hle2, henc⟩ | ⟨he, rfl⟩
  · have hfit := fit_good hG
    have HS := hide ((shwV_idx hG).trans (by rw [henc]))
    clear henc
    go_wp2_with (go_at_call 13; refine (num_any _ _).mono ?_; rintro e w' ⟨rfl, rfl⟩)
    go_loopw [8, 9] (fun v i wr => ∃ j : Nat, j ≤ names.length ∧ i = .int .i64 j ∧ OwnL .i64 3 wr w'.heap.size v (idx 0 j) ∧ Below w'.heap.size w' wr) (fun _ i _ => names.length - (intOf i).toNat)
    case atStart => exact ⟨0, Nat.zero_le _, rfl, OwnL.nil _ _ _ _, Below.refl _ _⟩
    case round =>
      obtain ⟨j, hj, rfl, hI, hb⟩ := hrel
      have hsz := hb.size
      by_cases hlt : j < names.length
      · have hlt' : (j : Int) < (names.length : Int) := by omega
        have hil := idx_len 0 j
        go_wp2_with (at_builtin; refine wpl_pushL eInt rfl (.tmp 35) (.tmp 37) rfl w'.heap.size _ (idx 0 j) rfl (hI.alloc _) (some ⟨wr.heap.size, 0, none⟩) 1 [(j : Int)] rfl (RdL.one _ _) (by intro h; cases h) (by simp only [List.length_cons, List.length_nil]; omega) (by simp; omega) ?_; intro v2 w2 hown2 hb2 _)
        go_roundw
        case rel => exact ⟨j + 1, by omega, by go_num, by rw [idx_snoc]; exact hown2, (balloc' hb _).trans hb2⟩
        case measure => simp [intOf]; omega
      · obtain rfl : j = names.length := by omega
        obtain ⟨a2, c2, e2, -, -, -, V2, -⟩ := hI.shape
        subst e2
        have B2 := bstep B1 hb
        have N2 := R1.below hb
        have hil := idx_len 0 names.length
        have HS' := HS
        have hil2 : (idx 0 names.length).length ≤ 1000000000 := by omega
        clear hI hil
        generalize idx 0 names.length = all at *
        go_wp2_with fail
        refine (Show_any a1 a2 c1 c2 names all wr N2 V2 hil2 hfit).mono ?_
        rw [unhide HS', mk_data]
        rintro e w3 ⟨rfl, hb3⟩
        have B3 := bstep B2 hb3
        have hne : (s.toList != s.toList) = false := by simp
        clear B2 N2 V2 hb3 hb R1 B1 HS HS'
        by_cases k1 : k < 1
        · have hd : dflV k = [] := by unfold dflV; rw [if_neg (by omega)]
          go_wp2_with (first | (go_at_call 13; refine (num_any _ _).mono ?_; rintro e w' ⟨rfl, rfl⟩) | (go_at_call 21; refine (Default_any k _).mono ?_; rw [hd]; rintro e w6 ⟨v6, rfl, hI6, hb6⟩; have B6 := bstep B3 hb6; obtain ⟨a6, c6, rfl, -, -, -, R6, -⟩ := hI6.shape; clear hI6) | (go_at_call 9; refine (live_any _).mono ?_; rintro e w8 ⟨rfl, hb8⟩))
          go_ret
          exact ⟨rfl, bstep B6 hb8⟩
        by_cases k2 : 64 < k
        · have hd : dflV k = [] := by unfold dflV; rw [if_neg (by omega)]
          go_wp2_with (first | (go_at_call 13; refine (num_any _ _).mono ?_; rintro e w' ⟨rfl, rfl⟩) | (go_at_call 21; refine (Default_any k _).mono ?_; rw [hd]; rintro e w6 ⟨v6, rfl, hI6, hb6⟩; have B6 := bstep B3 hb6; obtain ⟨a6, c6, rfl, -, -, -, R6, -⟩ := hI6.shape; clear hI6) | (go_at_call 9; refine (live_any _).mono ?_; rintro e w8 ⟨rfl, hb8⟩))
          go_ret
          exact ⟨rfl, bstep B6 hb8⟩
        obtain ⟨n, rfl⟩ : ∃ n : Nat, k = n := ⟨k.toNat, by omega⟩
        have hd : dflV n = usualL.take n := by unfold dflV; rw [if_pos (by omega), Int.toNat_natCast]
        have HDL := hide (show (usualL.take n).length = n by rw [List.length_take, usualL_len]; omega)
        have hT := hide (usual_told n (by omega) (by omega))
        go_wp2_with (go_at_call 13; refine (num_any _ _).mono ?_; rintro e w' ⟨rfl, rfl⟩)
        refine (Default_any n _).mono ?_
        rw [hd]
        rintro e w6 ⟨v6, rfl, hI6, hb6⟩
        have B6 := bstep B3 hb6
        obtain ⟨a6, c6, rfl, hn6, hlc6, hcm6, R6, -⟩ := hI6.shape
        have HR := hide R6
        generalize usualL.take n = d at *
        have hcv := conv_runes R6 (by have := unhide HDL; omega) c6
        have hz : ((d.length : Int) == 0) = false := beq_false_of_ne (by have := unhide HDL; omega)
        generalize runesBytes d = U at *
        go_wp2_with fail
        refine (Parse_any U _).mono ?_
        rw [(unhide hT).1, (unhide hT).2]
        rintro e w7 ⟨v7, rfl, hI7, hb7⟩
        have B7 := bstep B6 hb7
        have R7 := R6.below hb7
        obtain ⟨a7, c7, rfl, -, -, -, S7, -⟩ := hI7.shape
        have hk : ((d.length : Int) == (n : Int)) = true := by have := unhide HDL; simp [this]
        clear hI7 hI6 hcv hn6 hz
        go_wp2_with (first | (go_at_call 13; refine (num_any _ _).mono ?_; rintro e w' ⟨rfl, rfl⟩) | (go_at_call 12; refine (same_runes a7 a6 c7 c6 d d _ S7 R7 (by have := unhide HDL; unfold maxLen; omega)).mono ?_; rw [show decide (d = d) = true from decide_eq_true rfl]; rintro e w8 ⟨rfl, hb8⟩; have B8 := bstep B7 hb8) | (go_at_call 9; refine (live_any _).mono ?_; rintro e w9 ⟨rfl, hb9⟩))
        go_ret
        exact ⟨rfl, bstep B8 hb9⟩
  · have he2 : (e1 == 0) = false := by simpa using he
    clear he
    by_cases k1 : k < 1
    · have hd : dflV k = [] := by unfold dflV; rw [if_neg (by omega)]
      go_wp2_with (first | (go_at_call 13; refine (num_any _ _).mono ?_; rintro e w' ⟨rfl, rfl⟩) | (go_at_call 21; refine (Default_any k _).mono ?_; rw [hd]; rintro e w6 ⟨v6, rfl, hI6, hb6⟩; have B6 := bstep B1 hb6; obtain ⟨a6, c6, rfl, -, -, -, R6, -⟩ := hI6.shape; clear hI6) | (go_at_call 9; refine (live_any _).mono ?_; rintro e w8 ⟨rfl, hb8⟩))
      go_ret
      exact ⟨rfl, bstep B6 hb8⟩
    by_cases k2 : 64 < k
    · have hd : dflV k = [] := by unfold dflV; rw [if_neg (by omega)]
      go_wp2_with (first | (go_at_call 13; refine (num_any _ _).mono ?_; rintro e w' ⟨rfl, rfl⟩) | (go_at_call 21; refine (Default_any k _).mono ?_; rw [hd]; rintro e w6 ⟨v6, rfl, hI6, hb6⟩; have B6 := bstep B1 hb6; obtain ⟨a6, c6, rfl, -, -, -, R6, -⟩ := hI6.shape; clear hI6) | (go_at_call 9; refine (live_any _).mono ?_; rintro e w8 ⟨rfl, hb8⟩))
      go_ret
      exact ⟨rfl, bstep B6 hb8⟩
    obtain ⟨n, rfl⟩ : ∃ n : Nat, k = n := ⟨k.toNat, by omega⟩
    have hd : dflV n = usualL.take n := by unfold dflV; rw [if_pos (by omega), Int.toNat_natCast]
    have HDL := hide (show (usualL.take n).length = n by rw [List.length_take, usualL_len]; omega)
    have hT := hide (usual_told n (by omega) (by omega))
    go_wp2_with (go_at_call 13; refine (num_any _ _).mono ?_; rintro e w' ⟨rfl, rfl⟩)
    refine (Default_any n _).mono ?_
    rw [hd]
    rintro e w6 ⟨v6, rfl, hI6, hb6⟩
    have B6 := bstep B1 hb6
    obtain ⟨a6, c6, rfl, hn6, hlc6, hcm6, R6, -⟩ := hI6.shape
    have HR := hide R6
    generalize usualL.take n = d at *
    have hcv := conv_runes R6 (by have := unhide HDL; omega) c6
    have hz : ((d.length : Int) == 0) = false := beq_false_of_ne (by have := unhide HDL; omega)
    generalize runesBytes d = U at *
    go_wp2_with fail
    refine (Parse_any U _).mono ?_
    rw [(unhide hT).1, (unhide hT).2]
    rintro e w7 ⟨v7, rfl, hI7, hb7⟩
    have B7 := bstep B6 hb7
    have R7 := R6.below hb7
    obtain ⟨a7, c7, rfl, -, -, -, S7, -⟩ := hI7.shape
    have hk : ((d.length : Int) == (n : Int)) = true := by have := unhide HDL; simp [this]
    clear hI7 hI6 hcv hn6 hz
    go_wp2_with (first | (go_at_call 13; refine (num_any _ _).mono ?_; rintro e w' ⟨rfl, rfl⟩) | (go_at_call 12; refine (same_runes a7 a6 c7 c6 d d _ S7 R7 (by have := unhide HDL; unfold maxLen; omega)).mono ?_; rw [show decide (d = d) = true from decide_eq_true rfl]; rintro e w8 ⟨rfl, hb8⟩; have B8 := bstep B7 hb8) | (go_at_call 9; refine (live_any _).mono ?_; rintro e w9 ⟨rfl, hb9⟩))
    go_ret
    exact ⟨rfl, bstep B8 hb9⟩

end Go.Proofs.Ytlgkoeolojkhgaa
