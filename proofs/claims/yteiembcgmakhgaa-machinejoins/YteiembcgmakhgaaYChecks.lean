/-
  The law MachineChecks, walked: it returns true, whatever the table.
-/
import Derived.Test.YteiembcgmakhgaaMLive
import Derived.Test.YteiembcgmakhgaaArgM
namespace Go.Proofs.Yteiembcgmakhgaa
open Go.RowKit

theorem big_bounds {m : Mc} (h : bigB m = false) : m.n ≤ 1099511627776 ∧ m.nx.length ≤ 70000 ∧ m.out.length ≤ 70000 := by
  unfold bigB at h
  have := of_decide_eq_false h
  omega
theorem self_eq (x : Int) : (x == x) = true := by simp

set_option maxRecDepth 100000 in
theorem machineChecks_walk (m : Mc) (a1 : Option Addr) (c1 : Nat) (a2 : Option Addr) (c2 : Nat) (w : World) (h0 : ArgM w m a1 c1 a2 c2) :
    Calls Try.prog 3 #[mval m a1 c1 a2 c2] w fun e w' => e = .returned (.bool true) ∧ Below w.heap.size w w' := by
  unfold mval
  have B0 := Box.alloc w m a1 c1 a2 c2 24
  have b0 := ballo w (.cells #[.int .i64 m.kind, .int .i64 m.k, .int .i64 m.o, .int .i64 m.n, .slice a1 m.nx.length c1, .slice a2 m.out.length c2] 24)
  cases hbig : bigB m
  rotate_left
  · go_enter Try.func3, Try.ntmps3
    go_wp2_with fail
    refine (big_any m a1 c1 a2 c2 _).mono ?_
    rw [hbig]
    rintro e w1 ⟨rfl, hb1⟩
    have b1 := bstep b0 hb1
    go_wp2_with (go_at_call 10; refine (live_any _).mono ?_; rintro e wl ⟨rfl, hbl⟩)
    go_ret
    exact ⟨rfl, bstep b1 hbl⟩
  obtain ⟨_, ln, lo⟩ := big_bounds hbig
  have mn : m.nx.length ≤ maxLen := by unfold maxLen; omega
  have mo : m.out.length ≤ maxLen := by unfold maxLen; omega
  go_enter Try.func3, Try.ntmps3
  go_wp2_with fail
  refine (big_any m a1 c1 a2 c2 _).mono ?_
  rw [hbig]
  rintro e w1 ⟨rfl, hb1⟩
  have b1 := bstep b0 hb1
  have B1 := B0.below hb1
  obtain ⟨p0, p1, p2, p3, p4, p5⟩ := id B1
  clear hb1
  clear B0 b0 hbig
  go_wp2_with fail
  refine (copy_any m a1 c1 a2 c2 w1 (h0.nx.rd.below b1) (h0.out.rd.below b1) h0.nx.nil h0.out.nil ln lo).mono ?_
  rintro e w2 ⟨d1, e1, d2, e2, rfl, r1, r2, hb2⟩
  unfold mval
  have b2 := bstep b1 hb2
  have B2 := B1.below hb2
  clear p0 p1 p2 p3 p4 p5 hb2 b1 B1
  have C0 := Box.alloc w2 m d1 e1 d2 e2 24
  have x3 := ballo w2 (.cells #[.int .i64 m.kind, .int .i64 m.k, .int .i64 m.o, .int .i64 m.n, .slice d1 m.nx.length e1, .slice d2 m.out.length e2] 24)
  have b3 := bstep b2 x3
  have B3 := B2.below x3
  have r1 := r1.below x3
  have r2 := r2.below x3
  clear B2 b2 x3
  go_wp2_with fail
  refine (mcheck_any m d1 e1 d2 e2 _ r1 r2 mn mo).mono ?_
  rintro e w4 ⟨rfl, hb4⟩
  have b4 := bstep b3 hb4
  have B4 := B3.below hb4
  have C4 := C0.below hb4
  have r1 := r1.below hb4
  have r2 := r2.below hb4
  obtain ⟨p0, p1, p2, p3, p4, p5⟩ := id B4
  clear B3 C0 b3 hb4
  go_wp2_with fail
  refine (rmcheck_any m a1 c1 a2 c2 w4 (h0.nx.rd.below b4) (h0.out.rd.below b4) mn mo).mono ?_
  rintro e w5 ⟨rfl, hb5⟩
  have b5 := bstep b4 hb5
  have B5 := B4.below hb5
  have C5 := C4.below hb5
  have r1 := r1.below hb5
  have r2 := r2.below hb5
  clear p0 p1 p2 p3 p4 p5 B4 C4 b4 hb5
  obtain ⟨p0, p1, p2, p3, p4, p5⟩ := id B5
  obtain ⟨q0, q1, q2, q3, q4, q5⟩ := id C5
  generalize mchV m = P
  obtain ⟨P1, P2⟩ := P
  have s1 := self_eq P1
  have s2 := self_eq P2
  go_wp2_with (go_at_call 14; refine (num_any _ _).mono ?_; rintro e w' ⟨rfl, rfl⟩)
  refine (msame_any m d1 e1 d2 e2 a1 c1 a2 c2 _ r1 r2 (h0.nx.rd.below b5) (h0.out.rd.below b5) mn mo).mono ?_
  rintro e w6 ⟨rfl, hb6⟩
  have b6 := bstep b5 hb6
  go_wp2_with (go_at_call 10; refine (live_any _).mono ?_; rintro e wl ⟨rfl, hbl⟩)
  go_ret
  exact ⟨rfl, bstep b6 hbl⟩

end Go.Proofs.Yteiembcgmakhgaa
