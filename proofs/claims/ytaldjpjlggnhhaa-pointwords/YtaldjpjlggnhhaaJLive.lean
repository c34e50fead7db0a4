/-
  The document's example: live returns true; the law PointNils.
-/
import Derived.Test.YtaldjpjlggnhhaaJRef
namespace Go.Proofs.Ytaldjpjlggnhhaa
open Go.RowKit

theorem jl1 : (Sc.new 2 8).ask = some 4 := by decide
theorem jl2 : ((Sc.new 2 8).put 4 true).ask = some 2 := by decide
theorem jl3 : (((Sc.new 2 8).put 4 true).put 2 false).ask = some 3 := by decide
theorem jl4 : fndV ((((Sc.new 2 8).put 4 true).put 2 false).put 3 false) = .tuple #[.int .i64 3, .bool true] := by unfold fndV; rw [if_pos (by decide)]; rfl
theorem jl5 : ((((Sc.new 2 8).put 4 true).put 2 false).put 3 false).asked = 3 := by decide
theorem jl6 : nwE 2 8 = 0 := by decide

set_option maxRecDepth 100000 in
set_option maxHeartbeats 2000000 in
theorem jlive_any (w : World) : Calls Try.prog 11 #[] w fun e w' => e = .returned (.bool true) ∧ Below w.heap.size w w' := by
  have hn := snew_any 2 8 w
  go_enter Try.func11, Try.ntmps11
  go_wp2_with fail
  refine hn.mono ?_
  rintro e w1 hp
  obtain ⟨H, N, hH, hN, rfl, sx, b1⟩ : ∃ H N : Nat, (2 : Int) = (H : Int) ∧ (8 : Int) = (N : Int) ∧ e = .returned (.tuple #[.pointer (some ⟨w.heap.size, 0, none⟩), .int .i64 0]) ∧ Sx N w1 w.heap.size (Sc.new H N) ∧ Below w.heap.size w w1 := by
    rcases hp with ⟨h, -⟩ | ⟨-, h⟩
    · exact absurd jl6 h
    · exact h
  obtain rfl : H = 2 := by omega
  obtain rfl : N = 8 := by omega
  clear hn hp hH hN
  have k1 := ask_any sx
  rw [jl1] at k1
  unfold oaV at k1
  have HB := hide b1
  clear b1
  go_wp2_with (first | (go_at_call 10; refine (jnum_any _ _).mono ?_; rintro e w' ⟨rfl, hw'⟩; subst w') | fail)
  refine k1.mono ?_
  rintro e w2 ⟨rfl, b2⟩
  have sx2 := sx.below b2
  have t2 := tell_put sx2 true jl1
  have HB2 := hide (bstep (unhide HB) b2)
  clear k1 b2 sx sx2 HB
  go_wp2_with fail
  refine t2.mono ?_
  rintro e w3 ⟨rfl, sx3, x3⟩
  have k3 := ask_any sx3
  rw [jl2] at k3
  unfold oaV at k3
  have HB3 := hide ((unhide HB2).trans (x3.below (B := w.heap.size) (fun k hk => by cases hk; exact Nat.le_refl _) (unhide HB2).size))
  clear t2 x3 HB2
  go_wp2_with fail
  refine k3.mono ?_
  rintro e w4 ⟨rfl, b4⟩
  have sx4 := sx3.below b4
  have t4 := tell_put sx4 false jl2
  have HB4 := hide (bstep (unhide HB3) b4)
  clear k3 b4 sx3 sx4 HB3
  go_wp2_with fail
  refine t4.mono ?_
  rintro e w5 ⟨rfl, sx5, x5⟩
  have k5 := ask_any sx5
  rw [jl3] at k5
  unfold oaV at k5
  have HB5 := hide ((unhide HB4).trans (x5.below (B := w.heap.size) (fun k hk => by cases hk; exact Nat.le_refl _) (unhide HB4).size))
  clear t4 x5 HB4
  go_wp2_with fail
  refine k5.mono ?_
  rintro e w6 ⟨rfl, b6⟩
  have sx6 := sx5.below b6
  have t6 := tell_put sx6 false jl3
  have HB6 := hide (bstep (unhide HB5) b6)
  clear k5 b6 sx5 sx6 HB5
  go_wp2_with fail
  refine t6.mono ?_
  rintro e w7 ⟨rfl, sx7, x7⟩
  have f7 := found_any sx7
  rw [jl4] at f7
  have HB7 := hide ((unhide HB6).trans (x7.below (B := w.heap.size) (fun k hk => by cases hk; exact Nat.le_refl _) (unhide HB6).size))
  clear t6 x7 HB6
  have HA : Hid (∀ q, Calls Try.prog 15 #[.pointer (some ⟨w.heap.size, 0, none⟩)] (w7.drewN q) fun e w' => e = .returned (.int .i64 3) ∧ w' = w7.drewN q) := fun q => by
    have := asked_any (sx7.below (below_drewN (Below.refl _ _) q))
    rw [jl5] at this
    exact this
  clear sx7
  go_wp2_with (first | (go_at_call 14; refine f7.mono ?_; rintro e w8 ⟨rfl, q, hw8⟩; subst w8) | (go_at_call 15; refine (unhide HA _).mono ?_; rintro e w' ⟨rfl, hw'⟩; subst w'))
  go_ret
  exact ⟨rfl, below_drewN (unhide HB7) _⟩

set_option maxRecDepth 100000 in
set_option maxHeartbeats 1000000 in
theorem pointNils_walk (v : Bool) (w : World) :
    Calls Try.prog 4 #[.bool v] w fun e w' => e = .returned (.bool true) ∧ Below w.heap.size w w' := by
  have ha := ask_nil w
  unfold oaV at ha
  go_enter Try.func4, Try.ntmps4
  go_wp2_with (first
    | (go_at_call 10; refine (jnum_any _ _).mono ?_; rintro e w' ⟨rfl, hw'⟩; subst w')
    | (go_at_call 12; refine ha.mono ?_; rintro e w' ⟨rfl, hw'⟩; subst w')
    | (go_at_call 16; refine (tell_nil _ _).mono ?_; rintro e w' ⟨rfl, hw'⟩; subst w')
    | (go_at_call 14; refine (found_nil _).mono ?_; rintro e w' ⟨rfl, hw'⟩; subst w')
    | (go_at_call 15; refine (asked_nil _).mono ?_; rintro e w' ⟨rfl, hw'⟩; subst w')
    | (go_at_call 11; refine (jlive_any _).mono ?_; rintro e w' ⟨rfl, hb'⟩))
  go_ret
  exact ⟨rfl, hb'⟩

end Go.Proofs.Ytaldjpjlggnhhaa
