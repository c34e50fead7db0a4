/-
  What the reference's put and Show return: the same as the program's Show.
-/
import Derived.Test.YtbhdcgebcmgidaaDoorGShow
import Derived.Test.YtbhdcgebcmgidaaDoorTByt
namespace Go.Proofs.YtbhdcgebcmgidaaDoor
open Go.RowKit

theorem zs_rune (r : Int) : zs (Lib.encodeRune r) = Lib.encodeRuneZ r := by
  unfold zs Lib.encodeRune
  rw [List.map_map]
  conv => rhs; rw [← List.map_id (Lib.encodeRuneZ r)]
  apply List.map_congr_left
  intro x hx
  obtain ⟨h0, h1⟩ := Lib.encodeRuneZ_byte r x hx
  simp [Function.comp]
  omega
theorem zs_append (l : List UInt8) (r : Int) : zs (l ++ Lib.encodeRune r) = zs l ++ Lib.encodeRuneZ r := by
  rw [← zs_rune]; simp [zs]

theorem rune_put_any (r : Int) (w : World) (h0 : 0 ≤ r) (h1 : r ≤ 1114111) (h2 : ¬ (55296 ≤ r ∧ r ≤ 57343)) :
    Calls Tryd.prog 36 #[.int .i32 r] w fun e w' => ∃ v, e = .returned v ∧ OwnL .u8 5 w' w.heap.size v (Lib.encodeRuneZ r) ∧ Below w.heap.size w w' := by
  by_cases c1 : r < 128
  · have H := hide (Lib.encodeRuneZ_one h0 (show r ≤ 127 by omega))
    go_enter Tryd.func36, Tryd.ntmps36
    go_wp2
    go_ret
    refine ⟨_, rfl, ?_, (Below.refl _ _).alloc (Nat.le_refl _) _⟩
    rw [unhide H]
    exact OwnL.lit w w.heap.size [r] _ (Nat.le_refl _) (by unfold maxLen; simp) rfl
  by_cases c2 : r < 2048
  · have H := hide (Lib.encodeRuneZ_two (show 128 ≤ r by omega) (show r ≤ 2047 by omega))
    go_enter Tryd.func36, Tryd.ntmps36
    go_wp2
    go_ret
    refine ⟨_, rfl, ?_, (Below.refl _ _).alloc (Nat.le_refl _) _⟩
    rw [unhide H]
    exact OwnL.lit w w.heap.size [192 + r / 64, 128 + r % 64] _ (Nat.le_refl _) (by unfold maxLen; simp) rfl
  by_cases c3 : r < 65536
  · have H := hide (Lib.encodeRuneZ_three (r := r) (by omega))
    clear h2
    go_enter Tryd.func36, Tryd.ntmps36
    go_wp2
    go_ret
    refine ⟨_, rfl, ?_, (Below.refl _ _).alloc (Nat.le_refl _) _⟩
    rw [unhide H]
    exact OwnL.lit w w.heap.size [224 + r / 4096, 128 + r / 64 % 64, 128 + r % 64] _ (Nat.le_refl _) (by unfold maxLen; simp) rfl
  · have H := hide (Lib.encodeRuneZ_four (show 65536 ≤ r by omega) h1)
    clear h2
    go_enter Tryd.func36, Tryd.ntmps36
    go_wp2
    go_ret
    refine ⟨_, rfl, ?_, (Below.refl _ _).alloc (Nat.le_refl _) _⟩
    rw [unhide H]
    exact OwnL.lit w w.heap.size [240 + r / 262144, 128 + r / 4096 % 64, 128 + r / 64 % 64, 128 + r % 64] _ (Nat.le_refl _) (by unfold maxLen; simp) rfl

set_option maxRecDepth 100000 in
set_option maxHeartbeats 2000000 in
theorem RShow_any (a a' : Option Addr) (c c' : Nat) (names l : List Int) (w : World) (hr : RdL .i32 w a names) (hr' : RdL .i64 w a' l) (hl : l.length ≤ 1000000000) :
    Calls Tryd.prog 23 #[.slice a names.length c, .slice a' l.length c'] w fun e w' => e = .returned (.tuple #[.string ⟨(shwV names l).1.toArray⟩, .int .i64 (shwV names l).2]) ∧ Below w.heap.size w w' := by
  go_enter Tryd.func23, Tryd.ntmps23
  go_wp2
  go_loopw [6, 7] (fun v i wr => ∃ (j : Nat) (acc : List UInt8), j ≤ l.length ∧ i = .int .i64 j ∧ OwnL .u8 5 wr w.heap.size v (zs acc) ∧ Below w.heap.size w wr ∧ Hid (shw names (l.drop j) acc = shwV names l) ∧ acc.length ≤ 4 * j) (fun _ i _ => l.length - (intOf i).toNat)
  case atStart => exact ⟨0, [], Nat.zero_le _, rfl, OwnL.nil _ _ _ _, Below.refl _ _, hide rfl, by simp⟩
  case round =>
    obtain ⟨j, acc, hj, rfl, hI, hb, H, hacc⟩ := hrel
    have hsz := hb.size
    by_cases hlt : j < l.length
    · obtain ⟨b, off, rfl, hc⟩ := (hr'.below hb).at hlt
      have hcj := hc j hlt
      have hlt' : (j : Int) < (l.length : Int) := by omega
      have HD := hide (drop_at hlt)
      clear hc
      generalize l.getD j 0 = x at *
      by_cases hx0 : x < 0
      · have H1 := hide ((shw_sym (names := names) (l := l.drop (j + 1)) (acc := acc) (.inl hx0)).symm.trans ((congrArg (fun t => shw names t acc) (unhide HD)).symm.trans (unhide H)))
        go_wp2
        go_ret2
        exact ⟨ret_text (by rw [← unhide H1]; rfl) (by rw [← unhide H1]), hb⟩
      by_cases hx1 : (names.length : Int) ≤ x
      · have H1 := hide ((shw_sym (names := names) (l := l.drop (j + 1)) (acc := acc) (.inr hx1)).symm.trans ((congrArg (fun t => shw names t acc) (unhide HD)).symm.trans (unhide H)))
        go_wp2
        go_ret2
        exact ⟨ret_text (by rw [← unhide H1]; rfl) (by rw [← unhide H1]), hb⟩
      obtain ⟨m, rfl⟩ : ∃ m : Nat, x = m := ⟨x.toNat, by omega⟩
      have hm : m < names.length := by omega
      obtain ⟨b2, off2, rfl, hc2⟩ := (hr.below hb).at hm
      have hcm := hc2 m hm
      have HG := hide (fun hv => (shw_go (names := names) (l := l.drop (j + 1)) (acc := acc) hm hv).symm.trans ((congrArg (fun t => shw names t acc) (unhide HD)).symm.trans (unhide H)))
      have HA := hide (fun hv => (shw_arg (names := names) (l := l.drop (j + 1)) (acc := acc) hm hv).symm.trans ((congrArg (fun t => shw names t acc) (unhide HD)).symm.trans (unhide H)))
      clear hc2
      generalize names.getD m 0 = r at *
      by_cases g1 : r < 0
      · have H1 := hide (unhide HA (by simp [Lib.validRune]; omega))
        go_wp2
        go_ret2
        exact ⟨ret_text (by rw [← unhide H1]; rfl) (by rw [← unhide H1]), hb⟩
      by_cases g2 : 1114111 < r
      · have H1 := hide (unhide HA (by simp [Lib.validRune]; omega))
        go_wp2
        go_ret2
        exact ⟨ret_text (by rw [← unhide H1]; rfl) (by rw [← unhide H1]), hb⟩
      by_cases g3 : 55296 ≤ r
      · by_cases g4 : r ≤ 57343
        · have H1 := hide (unhide HA (by simp [Lib.validRune]; omega))
          go_wp2
          go_ret2
          exact ⟨ret_text (by rw [← unhide H1]; rfl) (by rw [← unhide H1]), hb⟩
        · have H1 := hide (unhide HG (by simp [Lib.validRune]; omega))
          have hl4 := Lib.runeCells_le r
          rw [Lib.runeCells_length, ← zs_len, zs_rune] at hl4
          have hal := zs_len acc
          go_wp2_with (first | (go_at_call 36; refine (rune_put_any r _ (by omega) (by omega) (by omega)).mono ?_; rintro e w2 ⟨v2, rfl, hI2, hb2⟩; obtain ⟨a3, c3, rfl, hnil3, -, -, hrd3, -⟩ := hI2.shape) | (at_builtin; refine wpl_pushL e8 rfl (.tmp 50) (.tmp 52) rfl w.heap.size _ (zs acc) rfl (hI.grown hb2) a3 c3 (Lib.encodeRuneZ r) rfl hrd3 hnil3 (by omega) (by have := hb2.size; omega) ?_; intro v4 w4 hown4 hb4 _))
          go_roundw
          case rel =>
            refine ⟨j + 1, acc ++ Lib.encodeRune r, by omega, by go_num, by rw [zs_append]; exact hown4, (hb.trans (hb2.mono hsz)).trans hb4, H1, ?_⟩
            have := zs_len (Lib.encodeRune r)
            rw [zs_rune] at this
            simp only [List.length_append]; omega
          case measure => simp [intOf]; omega
      · have H1 := hide (unhide HG (by simp [Lib.validRune]; omega))
        have hl4 := Lib.runeCells_le r
        rw [Lib.runeCells_length, ← zs_len, zs_rune] at hl4
        have hal := zs_len acc
        go_wp2_with (first | (go_at_call 36; refine (rune_put_any r _ (by omega) (by omega) (by omega)).mono ?_; rintro e w2 ⟨v2, rfl, hI2, hb2⟩; obtain ⟨a3, c3, rfl, hnil3, -, -, hrd3, -⟩ := hI2.shape) | (at_builtin; refine wpl_pushL e8 rfl (.tmp 50) (.tmp 52) rfl w.heap.size _ (zs acc) rfl (hI.grown hb2) a3 c3 (Lib.encodeRuneZ r) rfl hrd3 hnil3 (by omega) (by have := hb2.size; omega) ?_; intro v4 w4 hown4 hb4 _))
        go_roundw
        case rel =>
          refine ⟨j + 1, acc ++ Lib.encodeRune r, by omega, by go_num, by rw [zs_append]; exact hown4, (hb.trans (hb2.mono hsz)).trans hb4, H1, ?_⟩
          have := zs_len (Lib.encodeRune r)
          rw [zs_rune] at this
          simp only [List.length_append]; omega
        case measure => simp [intOf]; omega
    · have H1 := hide ((shw_end (names := names) (l := l) (j := j) (acc := acc) (by omega)).symm.trans (unhide H))
      have hcv := conv_bytes hI
      go_wp2
      go_ret2
      exact ⟨ret_text (by rw [← unhide H1]; simp) (by rw [← unhide H1]), hb⟩

end Go.Proofs.YtbhdcgebcmgidaaDoor
