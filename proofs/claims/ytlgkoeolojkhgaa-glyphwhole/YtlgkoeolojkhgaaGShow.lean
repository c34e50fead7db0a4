/-
  What the program's Show returns: a word's names as one text, or the first fault.
-/
import Derived.Test.YtlgkoeolojkhgaaPlace
import Derived.Test.YtlgkoeolojkhgaaGFirst
import Derived.Test.YtlgkoeolojkhgaaShelf
namespace Go.Proofs.Ytlgkoeolojkhgaa
open Go.RowKit

/-- The names of a word's symbols as bytes, behind acc. -/
def shw (names : List Int) : List Int → List UInt8 → List UInt8 × Int
  | [], acc => (acc, 0)
  | x :: w, acc => if x < 0 ∨ (names.length : Int) ≤ x then ([], 10) else if Lib.validRune (names.getD x.toNat 0) = true then shw names w (acc ++ Lib.encodeRune (names.getD x.toNat 0)) else ([], 1)
def shwV (names w : List Int) : List UInt8 × Int := shw names w []
theorem shw_end {names l : List Int} {j : Nat} {acc : List UInt8} (h : l.length ≤ j) : shw names (l.drop j) acc = (acc, 0) := by
  rw [List.drop_eq_nil_of_le h]; rfl
theorem shw_sym {names l : List Int} {x : Int} {acc : List UInt8} (h : x < 0 ∨ (names.length : Int) ≤ x) : shw names (x :: l) acc = ([], 10) := by
  simp only [shw, if_pos h]
theorem shw_arg {names l : List Int} {m : Nat} {acc : List UInt8} (h : m < names.length) (hv : Lib.validRune (names.getD m 0) = false) : shw names ((m : Int) :: l) acc = ([], 1) := by
  rw [shw, if_neg (by omega), Int.toNat_natCast, hv]; rfl
theorem shw_go {names l : List Int} {m : Nat} {acc : List UInt8} (h : m < names.length) (hv : Lib.validRune (names.getD m 0) = true) : shw names ((m : Int) :: l) acc = shw names l (acc ++ Lib.encodeRune (names.getD m 0)) := by
  rw [shw, if_neg (by omega), Int.toNat_natCast, if_pos hv]

theorem ret_text {v v' : Value} {a a' : Int} (hv : v = v') (h : a = a') : Ending.returned (.tuple #[v, .int .i64 a]) = .returned (.tuple #[v', .int .i64 a']) := by rw [hv, h]

set_option maxRecDepth 100000 in
set_option maxHeartbeats 2000000 in
theorem Show_any (a a' : Option Addr) (c c' : Nat) (names l : List Int) (w : World) (hr : RdL .i32 w a names) (hr' : RdL .i64 w a' l) (hl : l.length ≤ 1000000000) (hf : ∀ j, j < names.length → Fit32 (names.getD j 0)) :
    Calls Try.prog 18 #[.slice a names.length c, .slice a' l.length c'] w fun e w' => e = .returned (.tuple #[.string ⟨(shwV names l).1.toArray⟩, .int .i64 (shwV names l).2]) ∧ Below w.heap.size w w' := by
  go_enter Try.func18, Try.ntmps18
  go_wp2
  go_loopw [11] (fun i wr => ∃ (j : Nat) (acc : List UInt8), j ≤ l.length ∧ i = .int .i64 j ∧ Lib.IsBuilderF 60 5 w.heap.size w.heap.size (Lib.byteCells acc) wr ∧ Below w.heap.size w wr ∧ Hid (shw names (l.drop j) acc = shwV names l) ∧ acc.length ≤ 4 * j) (fun i _ => l.length - (intOf i).toNat)
  case atStart => exact ⟨0, [], Nat.zero_le _, rfl, Lib.IsBuilderF.of (Lib.fresh_isBuilder 60 5 w), (Below.refl _ _).alloc (Nat.le_refl _) _, hide rfl, by simp⟩
  case round =>
    obtain ⟨j, acc, hj, rfl, hI, hb, H, hacc⟩ := hrel
    have hsz := hb.size
    by_cases hlt : j < l.length
    · obtain ⟨b, off, rfl, hc⟩ := (hr'.below hb).at hlt
      have hcj := hc j hlt
      have hlt' : (j : Int) < (l.length : Int) := by omega
      have HD := hide (drop_at hlt)
      clear hc
      generalize l.getD j 0 = x at *
      by_cases hx0 : x < 0
      · have H1 := hide ((shw_sym (names := names) (l := l.drop (j + 1)) (acc := acc) (.inl hx0)).symm.trans ((congrArg (fun t => shw names t acc) (unhide HD)).symm.trans (unhide H)))
        go_wp2
        go_ret2
        exact ⟨ret_text (by rw [← unhide H1]; rfl) (by rw [← unhide H1]), hb⟩
      by_cases hx1 : (names.length : Int) ≤ x
      · have H1 := hide ((shw_sym (names := names) (l := l.drop (j + 1)) (acc := acc) (.inr hx1)).symm.trans ((congrArg (fun t => shw names t acc) (unhide HD)).symm.trans (unhide H)))
        go_wp2
        go_ret2
        exact ⟨ret_text (by rw [← unhide H1]; rfl) (by rw [← unhide H1]), hb⟩
      obtain ⟨m, rfl⟩ : ∃ m : Nat, x = m := ⟨x.toNat, by omega⟩
      have hm : m < names.length := by omega
      obtain ⟨b2, off2, rfl, hc2⟩ := (hr.below hb).at hm
      have hcm := hc2 m hm
      have hfm := fit32_inv (hf m hm)
      have HG := hide (fun hv => shw_go (names := names) (l := l.drop (j + 1)) (acc := acc) hm hv)
      have HA := hide (fun hv => shw_arg (names := names) (l := l.drop (j + 1)) (acc := acc) hm hv)
      clear hc2
      generalize names.getD m 0 = r at *
      cases hv : Lib.validRune r
      · have H1 := hide ((unhide HA hv).symm.trans ((congrArg (fun t => shw names t acc) (unhide HD)).symm.trans (unhide H)))
        go_wp2_with (go_at_call 28; refine (validRune_any _ _).mono ?_; rw [hv]; rintro e w' ⟨rfl, rfl⟩)
        go_ret2
        exact ⟨ret_text (by rw [← unhide H1]; rfl) (by rw [← unhide H1]), hb⟩
      · have H1 := hide ((unhide HG hv).symm.trans ((congrArg (fun t => shw names t acc) (unhide HD)).symm.trans (unhide H)))
        have hl4 := Lib.runeCells_le r
        rw [Lib.runeCells_length] at hl4
        go_wp2_with (first | (go_at_call 28; refine (validRune_any _ _).mono ?_; rw [hv]; rintro e w' ⟨rfl, rfl⟩) | (go_at_call 29; refine (writeRune_any w.heap.size w.heap.size _ r hfm.1 hfm.2 _ hI (by rw [Lib.byteCells_length]; omega) hsz).mono ?_; rintro e w2 ⟨rfl, hI2, hb2⟩))
        go_roundw
        case rel => exact ⟨j + 1, acc ++ Lib.encodeRune r, by omega, by go_num, by rw [Lib.byteCells_append, Lib.byteCells_encodeRune]; exact hI2, hb.trans hb2, H1, by simp only [List.length_append]; omega⟩
        case measure => simp [intOf]; omega
    · have H1 := hide ((shw_end (names := names) (l := l) (j := j) (acc := acc) (by omega)).symm.trans (unhide H))
      go_wp2_with (go_at_call 30; refine (string_any w.heap.size w.heap.size acc _ hI hsz).mono ?_; rintro e w2 ⟨rfl, hb2⟩)
      go_ret2
      exact ⟨ret_text (by rw [← unhide H1]; simp) (by rw [← unhide H1]), hb.trans hb2⟩

end Go.Proofs.Ytlgkoeolojkhgaa
