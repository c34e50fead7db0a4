/-
  The law MachineFroms, walked: it returns true, whatever the table, the state and the list.
-/
import Derived.Test.YteiembcgmakhgaaYChecks
namespace Go.Proofs.Yteiembcgmakhgaa
open Go.RowKit

set_option maxRecDepth 100000 in
theorem machineFroms_walk (m : Mc) (a1 : Option Addr) (c1 : Nat) (a2 : Option Addr) (c2 : Nat) (s : Int) (a0 : Option Addr) (c0 : Nat) (wd : List Int) (w : World) (h0 : ArgM w m a1 c1 a2 c2) (_ : Fits s) (g0 : ArgL .i64 8 w a0 c0 wd) :
    Calls Try.prog 5 #[mval m a1 c1 a2 c2, .int .i64 s, .slice a0 wd.length c0] w fun e w' => e = .returned (.bool true) ∧ Below w.heap.size w w' := by
  unfold mval
  have B0 := Box.alloc w m a1 c1 a2 c2 24
  have b0 := ballo w (.cells #[.int .i64 m.kind, .int .i64 m.k, .int .i64 m.o, .int .i64 m.n, .slice a1 m.nx.length c1, .slice a2 m.out.length c2] 24)
  cases hbig : bigB m
  rotate_left
  · go_enter Try.func5, Try.ntmps5
    go_wp2_with fail
    refine (big_any m a1 c1 a2 c2 _).mono ?_
    rw [hbig]
    rintro e w1 ⟨rfl, hb1⟩
    have b1 := bstep b0 hb1
    go_wp2_with (go_at_call 10; refine (live_any _).mono ?_; rintro e wl ⟨rfl, hbl⟩)
    go_ret
    exact ⟨rfl, bstep b1 hbl⟩
  obtain ⟨_, ln, lo⟩ := big_bounds hbig
  have mn : m.nx.length ≤ maxLen := by unfold maxLen; omega
  have mo : m.out.length ≤ maxLen := by unfold maxLen; omega
  by_cases hlong : 5000 < wd.length
  · go_enter Try.func5, Try.ntmps5
    go_wp2_with fail
    refine (big_any m a1 c1 a2 c2 _).mono ?_
    rw [hbig]
    rintro e w1 ⟨rfl, hb1⟩
    have b1 := bstep b0 hb1
    have B1 := B0.below hb1
    obtain ⟨p0, p1, p2, p3, p4, p5⟩ := id B1
    clear hb1
    go_wp2_with (go_at_call 10; refine (live_any _).mono ?_; rintro e wl ⟨rfl, hbl⟩)
    go_ret
    exact ⟨rfl, bstep b1 hbl⟩
  have ml : wd.length ≤ maxLen := by unfold maxLen; omega
  clear ln lo
  go_enter Try.func5, Try.ntmps5
  go_wp2_with fail
  refine (big_any m a1 c1 a2 c2 _).mono ?_
  rw [hbig]
  rintro e w1 ⟨rfl, hb1⟩
  have b1 := bstep b0 hb1
  have B1 := B0.below hb1
  obtain ⟨p0, p1, p2, p3, p4, p5⟩ := id B1
  clear hb1
  clear B0 b0 hbig
  go_wp2_with fail
  refine (from_any m a1 c1 a2 c2 s a0 c0 wd w1 (h0.nx.rd.below b1) (h0.out.rd.below b1) (g0.rd.below b1) mn mo ml).mono ?_
  rintro e w2 ⟨v2, rfl, I2, hb2⟩
  obtain ⟨av, cv, rfl, -, hl5, hm5, S5, -⟩ := I2.shape
  have b2 := bstep b1 hb2
  have B2 := B1.below hb2
  clear p0 p1 p2 p3 p4 p5 hb2 b1 B1 I2
  obtain ⟨p0, p1, p2, p3, p4, p5⟩ := id B2
  go_wp2_with fail
  refine (rfrom_any m a1 c1 a2 c2 s a0 c0 wd w2 (h0.nx.rd.below b2) (h0.out.rd.below b2) (g0.rd.below b2) mn mo ml).mono ?_
  rintro e w6 ⟨v6, rfl, I6, hb6⟩
  obtain ⟨au, cu, rfl, -, -, -, S6, -⟩ := I6.shape
  have S5 := S5.below hb6
  have b7 := bstep b2 hb6
  clear p0 p1 p2 p3 p4 p5 B2 b2 hb6 I6
  generalize fromV m s wd = P at *
  obtain ⟨P1, P2, P3⟩ := P
  have s1 := self_eq P1
  have s3 := self_eq P3
  go_wp2_with fail
  refine (same_list av au cv cu P2 P2 _ S5 S6 (Nat.le_trans hl5 hm5)).mono ?_
  rw [show decide (P2 = P2) = true from decide_eq_true rfl]
  rintro e w7 ⟨rfl, hb7⟩
  have b8 := bstep b7 hb7
  clear b7 hb7 S5 S6
  go_wp2_with (first | (go_at_call 14; refine (num_any _ _).mono ?_; rintro e w' ⟨rfl, rfl⟩) | (go_at_call 10; refine (live_any _).mono ?_; rintro e wl ⟨rfl, hbl⟩))
  go_ret
  exact ⟨rfl, bstep b8 hbl⟩

end Go.Proofs.Yteiembcgmakhgaa
