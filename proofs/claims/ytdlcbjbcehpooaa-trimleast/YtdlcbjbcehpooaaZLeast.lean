/-
  The law TrimLeast, walked: it returns true, whatever the table and the list.
-/
import Derived.Test.YtdlcbjbcehpooaaZLeastB
namespace Go.Proofs.Ytdlcbjbcehpooaa
open Go.RowKit

set_option maxRecDepth 100000 in
set_option maxHeartbeats 1000000 in
theorem trimLeast_walk (m : Mc) (a1 : Option Addr) (c1 : Nat) (a2 : Option Addr) (c2 : Nat) (a0 : Option Addr) (c0 : Nat) (wd : List Int) (w : World) (h0 : ArgM w m a1 c1 a2 c2) (g0 : ArgL .i64 8 w a0 c0 wd) :
    Calls Try.prog 8 #[mval m a1 c1 a2 c2, .slice a0 wd.length c0] w fun e w' => e = .returned (.bool true) ∧ Below w.heap.size w w' := by
  unfold mval
  have B0 := Box.alloc w m a1 c1 a2 c2 24
  have b0 := ballo w (.cells #[.int .i64 m.kind, .int .i64 m.k, .int .i64 m.o, .int .i64 m.n, .slice a1 m.nx.length c1, .slice a2 m.out.length c2] 24)
  cases hbig : bigB 300 m
  rotate_left
  · go_enter Try.func8, Try.ntmps8
    go_wp2_with fail
    refine (big_any 300 m a1 c1 a2 c2 _).mono ?_
    rw [hbig]
    rintro e w1 ⟨rfl, hb1⟩
    have b1 := bstep b0 hb1
    go_wp2_with (go_at_call 10; refine (live_any _).mono ?_; rintro e wl ⟨rfl, hbl⟩)
    go_ret
    exact ⟨rfl, bstep b1 hbl⟩
  obtain ⟨n300, ln, lo⟩ := big_bounds hbig
  have mn : m.nx.length ≤ maxLen := by unfold maxLen; omega
  have mo : m.out.length ≤ maxLen := by unfold maxLen; omega
  by_cases hlong : 2000 < wd.length
  · go_enter Try.func8, Try.ntmps8
    go_wp2_with fail
    refine (big_any 300 m a1 c1 a2 c2 _).mono ?_
    rw [hbig]
    rintro e w1 ⟨rfl, hb1⟩
    have b1 := bstep b0 hb1
    have B1 := B0.below hb1
    obtain ⟨p0, p1, p2, p3, p4, p5⟩ := id B1
    clear hb1
    go_wp2_with (go_at_call 10; refine (live_any _).mono ?_; rintro e wl ⟨rfl, hbl⟩)
    go_ret
    exact ⟨rfl, bstep b1 hbl⟩
  have ml : wd.length ≤ maxLen := by unfold maxLen; omega
  by_cases hz : (mchV m).2 = 0
  rotate_left
  · have HC := hide (rcV_err hz)
    have tz := ne_bne hz
    clear hz
    go_enter Try.func8, Try.ntmps8
    go_wp2_with fail
    refine (big_any 300 m a1 c1 a2 c2 _).mono ?_
    rw [hbig]
    rintro e w1 ⟨rfl, hb1⟩
    have b1 := bstep b0 hb1
    have B1 := B0.below hb1
    obtain ⟨p0, p1, p2, p3, p4, p5⟩ := id B1
    clear hb1
    clear B0 b0 hbig
    go_wp2_with fail
    refine (reach_any m a1 c1 a2 c2 w1 (h0.nx.rd.below b1) (h0.out.rd.below b1) mn mo).mono ?_
    rintro e w2 ⟨v, vv, vs, rfl, hv, hLL, -, hb2⟩
    rw [unhide HC] at hv hLL ⊢
    dsimp only at hv hLL ⊢
    obtain ⟨av, cv, ev, -, -, -, rv, -⟩ := hv.shape
    subst ev
    obtain ⟨al, cl, el, rl⟩ := hLL.rd
    subst el
    have b2 := bstep b1 hb2
    have B2 := B1.below hb2
    obtain ⟨q0, q1, q2, q3, q4, q5⟩ := id B2
    clear p0 p1 p2 p3 p4 p5 hb2 b1 B1 hv
    go_wp2_with (first | (go_at_call 16; refine (num_any _ _).mono ?_; rintro e w' ⟨rfl, rfl⟩) | (go_at_call 10; refine (live_any _).mono ?_; rintro e wl ⟨rfl, hbl⟩))
    go_ret
    exact ⟨rfl, bstep b2 hbl⟩
  by_cases hw : (wchV wd m.k).2 = 0
  · exact trimLeast_ok m a1 c1 a2 c2 a0 c0 wd w h0 g0 hbig hlong hz hw
  · exact trimLeast_bad m a1 c1 a2 c2 a0 c0 wd w h0 g0 hbig hlong hz hw

end Go.Proofs.Ytdlcbjbcehpooaa
