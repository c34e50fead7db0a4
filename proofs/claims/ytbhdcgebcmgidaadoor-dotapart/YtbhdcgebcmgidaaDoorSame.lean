/-
  slices.Index and slices.Contains of runes; whether two lists are the same: the references' Same.
-/
import Derived.Test.YtbhdcgebcmgidaaDoorPlace
import Derived.Test.YtbhdcgebcmgidaaDoorK1
namespace Go.Proofs.YtbhdcgebcmgidaaDoor
open Go.RowKit

theorem Index_any (a : Option Addr) (c : Nat) (l : List Int) (x : Int) (w : World) (hr : RdL .i32 w a l) (hn : l.length ≤ maxLen) :
    Calls Tryd.prog 61 #[.slice a l.length c, .int .i32 x] w fun e w' => e = .returned (.int .i64 (plc x l 0)) ∧ w' = w := by
  unfold maxLen at hn
  go_enter Tryd.func61, Tryd.ntmps61
  go_wp2
  go_loopw [8] (fun i wr => wr = w ∧ ∃ j : Nat, j ≤ l.length ∧ i = .int .i64 j ∧ Hid (plc x (l.drop j) j = plc x l 0)) (fun i _ => l.length - (intOf i).toNat)
  case atStart => exact ⟨rfl, 0, Nat.zero_le _, rfl, hide rfl⟩
  case round =>
    obtain ⟨rfl, j, hj, rfl, H⟩ := hrel
    by_cases hlt : j < l.length
    · obtain ⟨b, off, rfl, hc⟩ := hr.at hlt
      have hcj := hc j hlt
      have hlt' : (j : Int) < (l.length : Int) := by omega
      have HD := hide (drop_at hlt)
      clear hc
      generalize l.getD j 0 = y at *
      by_cases h1 : y = x
      · subst h1
        go_wp2
        go_ret
        exact ⟨ret_int (by rw [← unhide H, unhide HD, plc_cons_eq rfl]), rfl⟩
      · have HN := hide h1
        have h2 : (x == y) = false := by simpa using Ne.symm h1
        clear h1
        go_wp2
        go_roundw
        case rel => exact ⟨trivial, j + 1, by omega, by go_num, hide (by rw [← unhide H, unhide HD, plc_cons_ne (unhide HN)])⟩
        case measure => simp [intOf]; omega
    · have HE := hide (plc_end (x := x) (l := l) (j := j) (k := j) (by omega))
      go_wp2
      go_ret
      exact ⟨ret_int (by rw [← unhide H, unhide HE]), rfl⟩

theorem Contains_any (a : Option Addr) (c : Nat) (l : List Int) (x : Int) (w : World) (hr : RdL .i32 w a l) (hn : l.length ≤ maxLen) :
    Calls Tryd.prog 57 #[.slice a l.length c, .int .i32 x] w fun e w' => e = .returned (.bool (decide (0 ≤ plc x l 0))) ∧ w' = w := by
  go_enter Tryd.func57, Tryd.ntmps57
  go_wp2_with (go_at_call 61; refine (Index_any _ _ _ _ _ hr hn).mono ?_; rintro e w' ⟨rfl, rfl⟩)
  go_ret
  exact ⟨rfl, rfl⟩

end Go.Proofs.YtbhdcgebcmgidaaDoor
