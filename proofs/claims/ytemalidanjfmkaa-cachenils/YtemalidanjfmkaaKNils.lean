/-
  The law CacheNils, walked: it returns true, whatever the lists.
-/
import Derived.Test.YtemalidanjfmkaaNLive
import Derived.Test.YtemalidanjfmkaaK5
namespace Go.Proofs.Ytemalidanjfmkaa
open Go.RowKit

set_option maxRecDepth 100000 in
set_option maxHeartbeats 1000000 in
theorem cacheNils_walk (a : Option Addr) (c : Nat) (l : List Int) (a2 : Option Addr) (c2 : Nat) (l2 : List Int) (w : World) (_h : ArgL .i64 8 w a c l) (_h2 : ArgL .i64 8 w a2 c2 l2) :
    Calls Try.prog 4 #[.slice a l.length c, .slice a2 l2.length c2] w fun e w' => e = .returned (.bool true) ∧ Below w.heap.size w w' := by
  clear _h _h2
  go_enter Try.func4, Try.ntmps4
  go_wp2_with (first
    | (go_at_call 13; refine (num_any _ _).mono ?_; rintro e w' ⟨rfl, hw'⟩; subst w')
    | (go_at_call 15; refine (put_nil _ _ _).mono ?_; rintro e w' ⟨rfl, hw'⟩; subst w')
    | (go_at_call 17; refine (get_nil _ _).mono ?_; rintro e w' ⟨rfl, hw'⟩; subst w')
    | (go_at_call 20; refine (has_nil _ _).mono ?_; rintro e w' ⟨rfl, hw'⟩; subst w')
    | (go_at_call 21; refine (nodes_nil _).mono ?_; rintro e w' ⟨rfl, hw'⟩; subst w')
    | (go_at_call 22; refine (hits_nil _).mono ?_; rintro e w' ⟨rfl, hw'⟩; subst w')
    | (go_at_call 23; refine (misses_nil _).mono ?_; rintro e w' ⟨rfl, hw'⟩; subst w')
    | (go_at_call 26; refine (words_nil _).mono ?_; rintro e w' ⟨rfl, hw'⟩; subst w')
    | (go_at_call 10; refine (live_any _).mono ?_; rintro e w' ⟨rfl, hb'⟩))
  go_ret
  exact ⟨rfl, hb'⟩
end Go.Proofs.Ytemalidanjfmkaa
