/-
  The law GlyphBack, walked: it returns true, whatever the texts and the word.
-/
import Derived.Test.YtlgkoeolojkhgaaGLive
import Derived.Test.YtlgkoeolojkhgaaBack
import Derived.Test.YtlgkoeolojkhgaaSame
import Derived.Test.YtlgkoeolojkhgaaArgL
namespace Go.Proofs.Ytlgkoeolojkhgaa
open Go.RowKit

theorem mk_data (t : ByteArray) : (⟨t.data.toList.toArray⟩ : ByteArray) = t := by cases t; simp
theorem rds_len (names : List Int) (s : ByteArray) : ∀ (f pos : Nat) (acc : List Int), acc.length ≤ 4096 → (rds names s f pos acc).1.length ≤ 4096
  | 0, _, _, h => h
  | f + 1, pos, acc, h => by
    rw [rds]
    split
    · split
      · simp
      · split
        · simp
        · exact rds_len names s f _ _ (by simp; omega)
    · exact h
theorem rdsV_len (names : List Int) (s : ByteArray) : (rdsV names s).1.length ≤ 4096 := rds_len names s _ _ _ (by simp)
theorem shown_read' {names l : List Int} {U : ByteArray} (hg : GoodN names) (hl : l.length ≤ 4096) (h : (shwV names l).2 = 0) (hU : U.data.toList = (shwV names l).1) : rdsV names U = (l, 0, U.size) := by
  have := shw_read hg U l [] U.size [] (Prod.ext hU.symm h) (by simp) (by simpa using hl)
  unfold rdsV
  rw [List.length_nil] at this
  rw [this]; simp
theorem fit_good {names : List Int} (hg : GoodN names) : ∀ j, j < names.length → Fit32 (names.getD j 0) := by
  intro j hj
  have := (hg j hj).2
  unfold Lib.validRune at this
  rw [decide_eq_true_eq] at this
  exact fit32 (by omega) (by omega)

set_option maxRecDepth 100000 in
set_option maxHeartbeats 4000000 in
theorem glyphBack_walk (s t : ByteArray) (a0 : Option Addr) (c0 : Nat) (l : List Int) (w : World) (hs : s.size ≤ maxLen) (ht : t.size ≤ maxLen) (h0 : ArgL .i64 8 w a0 c0 l) :
    Calls Try.prog 7 #[.string s, .string t, .slice a0 l.length c0] w fun e w' => e = .returned (.bool true) ∧ Below w.heap.size w w' := by
  unfold maxLen at hs ht
  have hle0 := h0.le
  have hre0 := h0.reach
  by_cases hm1 : 20000 < s.size
  · go_enter Try.func7, Try.ntmps7
    go_wp2_with (go_at_call 9; refine (live_any _).mono ?_; rintro e w' ⟨rfl, hb⟩)
    go_ret
    exact ⟨rfl, hb⟩
  by_cases hm2 : 20000 < t.size
  · go_enter Try.func7, Try.ntmps7
    go_wp2_with (go_at_call 9; refine (live_any _).mono ?_; rintro e w' ⟨rfl, hb⟩)
    go_ret
    exact ⟨rfl, hb⟩
  by_cases hm3 : 2000 < l.length
  · go_enter Try.func7, Try.ntmps7
    go_wp2_with (go_at_call 9; refine (live_any _).mono ?_; rintro e w' ⟨rfl, hb⟩)
    go_ret
    exact ⟨rfl, hb⟩
  go_enter Try.func7, Try.ntmps7
  go_wp2_with fail
  refine (Parse_any s w).mono ?_
  rintro e w1 ⟨v1, rfl, hI1, B1⟩
  obtain ⟨a1, c1, rfl, -, hl1, hm1', R1, -⟩ := hI1.shape
  have hG0 := prsV_good s
  have W1 := h0.rd.below B1
  clear hI1
  generalize prsV s = P at *
  obtain ⟨names, e1, at1⟩ := P
  simp only at hG0 hl1 R1 ⊢
  rcases hG0 with ⟨rfl, hG, hle2, -⟩ | ⟨he, rfl⟩
  · have hfit := fit_good hG
    go_wp2_with (first | (go_at_call 13; refine (num_any _ _).mono ?_; rintro e w' ⟨rfl, rfl⟩) | fail)
    refine (Read_any a1 c1 names t _ R1 (by unfold maxLen; omega) hfit).mono ?_
    rintro e w2 ⟨v2, rfl, hI2, hb2⟩
    have B2 := bstep B1 hb2
    have N2 := R1.below hb2
    have W2 := W1.below hb2
    obtain ⟨a2, c2, rfl, -, -, -, V2, -⟩ := hI2.shape
    have hlen := rdsV_len names t
    clear hI2 B1 R1 W1 hb2
    by_cases hf : (rdsV names t).2.1 = 0
    · have HS := hide (read_shown hf)
      rw [hf]
      generalize (rdsV names t).1 = v at *
      generalize (rdsV names t).2.2 = at2 at *
      clear hf
      go_wp2_with (first | (go_at_call 13; refine (num_any _ _).mono ?_; rintro e w' ⟨rfl, rfl⟩) | fail)
      refine (Show_any a1 a2 c1 c2 names v _ N2 V2 (by omega) hfit).mono ?_
      rw [unhide HS, mk_data]
      rintro e w3 ⟨rfl, hb3⟩
      have B3 := bstep B2 hb3
      have N3 := N2.below hb3
      have W3 := W2.below hb3
      clear B2 N2 W2 V2 hb3 hlen
      have heq : (t.toList == t.toList) = true := by simp
      have hne : (t.toList != t.toList) = false := by simp
      go_wp2_with (first | (go_at_call 13; refine (num_any _ _).mono ?_; rintro e w' ⟨rfl, rfl⟩) | fail)
      refine (Show_any a1 a0 c1 c0 names l _ N3 W3 (by omega) hfit).mono ?_
      rintro e w5 ⟨rfl, hb5⟩
      have B5 := bstep B3 hb5
      have N5 := (N3).below hb5
      have W5 := (W3).below hb5
      rcases shw_err hG l [] with hz | hz
      · have hU : ∃ U : ByteArray, U = ⟨(shwV names l).1.toArray⟩ := ⟨_, rfl⟩
        obtain ⟨U, hU⟩ := hU
        have HR := hide (shown_read' (U := U) hG (by omega) hz (by rw [hU]))
        rw [← hU, show (shwV names l).2 = 0 from hz]
        clear hU hz
        go_wp2_with (first | (go_at_call 13; refine (num_any _ _).mono ?_; rintro e w' ⟨rfl, rfl⟩) | (go_at_call 14; refine (Read_any a1 c1 names U _ N5 (by unfold maxLen; omega) hfit).mono ?_; rw [unhide HR]; rintro e w6 ⟨v6, rfl, hI6, hb6⟩; have B6 := bstep B5 hb6; have W6 := W5.below hb6; obtain ⟨a6, c6, rfl, -, -, -, R6, -⟩ := hI6.shape; clear hI6) | (go_at_call 16; refine (same_list a6 a0 c6 c0 l l _ R6 W6 (by unfold maxLen; omega)).mono ?_; rw [show decide (l = l) = true from decide_eq_true rfl]; rintro e w7 ⟨rfl, hb7⟩; have B7 := bstep B6 hb7) | (go_at_call 9; refine (live_any _).mono ?_; rintro e w8 ⟨rfl, hb8⟩))
        go_ret
        exact ⟨rfl, bstep B7 hb8⟩
      · have hU : ∃ U : ByteArray, U = ⟨(shwV names l).1.toArray⟩ := ⟨_, rfl⟩
        obtain ⟨U, hU⟩ := hU
        have hUe : U.toList.isEmpty = true := by rw [hU, show shwV names l = ([], 10) from hz, empty_iff]; rfl
        rw [← hU, show (shwV names l).2 = 10 from congrArg Prod.snd hz]
        clear hU hz
        go_wp2_with (first | (go_at_call 13; refine (num_any _ _).mono ?_; rintro e w' ⟨rfl, rfl⟩) | (go_at_call 9; refine (live_any _).mono ?_; rintro e w8 ⟨rfl, hb8⟩))
        go_ret
        exact ⟨rfl, bstep B5 hb8⟩
    · have hf2 : ((rdsV names t).2.1 == 0) = false := by simpa using hf
      generalize (rdsV names t).1 = v at *
      generalize (rdsV names t).2.1 = f1 at *
      generalize (rdsV names t).2.2 = at2 at *
      clear hf V2 hlen
      go_wp2_with (first | (go_at_call 13; refine (num_any _ _).mono ?_; rintro e w' ⟨rfl, rfl⟩) | fail)
      refine (Show_any a1 a0 c1 c0 names l _ N2 W2 (by omega) hfit).mono ?_
      rintro e w5 ⟨rfl, hb5⟩
      have B5 := bstep B2 hb5
      have N5 := (N2).below hb5
      have W5 := (W2).below hb5
      rcases shw_err hG l [] with hz | hz
      · have hU : ∃ U : ByteArray, U = ⟨(shwV names l).1.toArray⟩ := ⟨_, rfl⟩
        obtain ⟨U, hU⟩ := hU
        have HR := hide (shown_read' (U := U) hG (by omega) hz (by rw [hU]))
        rw [← hU, show (shwV names l).2 = 0 from hz]
        clear hU hz
        go_wp2_with (first | (go_at_call 13; refine (num_any _ _).mono ?_; rintro e w' ⟨rfl, rfl⟩) | (go_at_call 14; refine (Read_any a1 c1 names U _ N5 (by unfold maxLen; omega) hfit).mono ?_; rw [unhide HR]; rintro e w6 ⟨v6, rfl, hI6, hb6⟩; have B6 := bstep B5 hb6; have W6 := W5.below hb6; obtain ⟨a6, c6, rfl, -, -, -, R6, -⟩ := hI6.shape; clear hI6) | (go_at_call 16; refine (same_list a6 a0 c6 c0 l l _ R6 W6 (by unfold maxLen; omega)).mono ?_; rw [show decide (l = l) = true from decide_eq_true rfl]; rintro e w7 ⟨rfl, hb7⟩; have B7 := bstep B6 hb7) | (go_at_call 9; refine (live_any _).mono ?_; rintro e w8 ⟨rfl, hb8⟩))
        go_ret
        exact ⟨rfl, bstep B7 hb8⟩
      · have hU : ∃ U : ByteArray, U = ⟨(shwV names l).1.toArray⟩ := ⟨_, rfl⟩
        obtain ⟨U, hU⟩ := hU
        have hUe : U.toList.isEmpty = true := by rw [hU, show shwV names l = ([], 10) from hz, empty_iff]; rfl
        rw [← hU, show (shwV names l).2 = 10 from congrArg Prod.snd hz]
        clear hU hz
        go_wp2_with (first | (go_at_call 13; refine (num_any _ _).mono ?_; rintro e w' ⟨rfl, rfl⟩) | (go_at_call 9; refine (live_any _).mono ?_; rintro e w8 ⟨rfl, hb8⟩))
        go_ret
        exact ⟨rfl, bstep B5 hb8⟩
  · have he2 : (e1 != 0) = true := by simpa using he
    clear he
    go_wp2_with (first | (go_at_call 13; refine (num_any _ _).mono ?_; rintro e w' ⟨rfl, rfl⟩) | (go_at_call 9; refine (live_any _).mono ?_; rintro e w8 ⟨rfl, hb8⟩))
    go_ret
    exact ⟨rfl, bstep B1 hb8⟩

end Go.Proofs.Ytlgkoeolojkhgaa
