/-
  The law BlockNils, walked: it returns true, whatever the list and the number.
-/
import Derived.Test.YtnakadlhafggkaaQLive
import Derived.Test.YtnakadlhafggkaaK5
namespace Go.Proofs.Ytnakadlhafggkaa
open Go.RowKit

set_option maxRecDepth 100000 in
set_option maxHeartbeats 1000000 in
theorem blockNils_walk (a : Option Addr) (c : Nat) (l : List Int) (i : Int) (w : World) (_h : ArgL .i64 8 w a c l) (_hi : Fits i) :
    Calls Try.prog 4 #[.slice a l.length c, .int .i64 i] w fun e w' => e = .returned (.bool true) ∧ Below w.heap.size w w' := by
  go_enter Try.func4, Try.ntmps4
  go_wp2_with (first
    | (go_at_call 12; refine (num_any _ _).mono ?_; rintro e w' ⟨rfl, hw'⟩; subst w')
    | (go_at_call 14; refine (split_nil _ _).mono ?_; rintro e w' ⟨rfl, hw'⟩; subst w')
    | (go_at_call 20; refine (class_nil _ _).mono ?_; rintro e w' ⟨rfl, hw'⟩; subst w')
    | (go_at_call 21; refine (members_nil _ _).mono ?_; rintro e w' ⟨rfl, hw'⟩; subst w')
    | (go_at_call 18; refine (count_nil _).mono ?_; rintro e w' ⟨rfl, hw'⟩; subst w')
    | (go_at_call 17; refine (all_nil _).mono ?_; rintro e w' ⟨rfl, hw'⟩; subst w')
    | (go_at_call 9; refine (live_any _).mono ?_; rintro e w' ⟨rfl, hb'⟩))
  go_ret
  exact ⟨rfl, hb'⟩
end Go.Proofs.Ytnakadlhafggkaa
