/-
  The law MooreClasses, walked: it returns true, whatever the table.
-/
import Derived.Test.YtoiogggibfmncaaK12
import Derived.Test.YtoiogggibfmncaaSApi
namespace Go.Proofs.Ytoiogggibfmncaa
open Go.RowKit

theorem cs_len (m : Mc) : (csV m).1.length ≤ 1024 := by
  by_cases h : (mchV m).2 = 0
  · rw [csV_ok h]
    have := (right_of h).n1
    show (aftL m (rdV m)).length ≤ 1024
    rw [aft_len]; omega
  · rw [csV_err h]; exact Nat.zero_le _

set_option maxRecDepth 100000 in
set_option maxHeartbeats 1000000 in
theorem mooreClasses_walk (m : Mc) (a1 : Option Addr) (c1 : Nat) (a2 : Option Addr) (c2 : Nat) (w : World) (h0 : ArgM w m a1 c1 a2 c2) :
    Calls Try.prog 4 #[mval m a1 c1 a2 c2] w fun e w' => e = .returned (.bool true) ∧ Below w.heap.size w w' := by
  unfold mval
  have B0 := Box.alloc w m a1 c1 a2 c2 24
  have b0 := ballo w (.cells #[.int .i64 m.kind, .int .i64 m.k, .int .i64 m.o, .int .i64 m.n, .slice a1 m.nx.length c1, .slice a2 m.out.length c2] 24)
  cases hbig : bigB 60 m
  rotate_left
  · go_enter Try.func4, Try.ntmps4
    go_wp2_with fail
    refine (big_any 60 m a1 c1 a2 c2 _).mono ?_
    rw [hbig]
    rintro e w1 ⟨rfl, hb1⟩
    have b1 := bstep b0 hb1
    go_wp2_with (go_at_call 10; refine (live_any _).mono ?_; rintro e wl ⟨rfl, hbl⟩)
    go_ret
    exact ⟨rfl, bstep b1 hbl⟩
  obtain ⟨n60, ln, lo⟩ := big_bounds hbig
  have mn : m.nx.length ≤ maxLen := by unfold maxLen; omega
  have mo : m.out.length ≤ maxLen := by unfold maxLen; omega
  go_enter Try.func4, Try.ntmps4
  go_wp2_with fail
  refine (big_any 60 m a1 c1 a2 c2 _).mono ?_
  rw [hbig]
  rintro e w1 ⟨rfl, hb1⟩
  have b1 := bstep b0 hb1
  have B1 := B0.below hb1
  obtain ⟨p0, p1, p2, p3, p4, p5⟩ := id B1
  clear hb1
  clear B0 b0 hbig
  go_wp2_with fail
  refine (classes_any m a1 c1 a2 c2 w1 (h0.nx.rd.below b1) (h0.out.rd.below b1) h0.out.le mn mo).mono ?_
  rintro e w3 ⟨v, rfl, hv, hb3⟩
  obtain ⟨av, cv, rfl, -, -, -, rv, -⟩ := hv.shape
  have b3 := bstep b1 hb3
  have B3 := B1.below hb3
  clear p0 p1 p2 p3 p4 p5 hb3 B1 b1 hv
  obtain ⟨p0, p1, p2, p3, p4, p5⟩ := id B3
  go_wp2_with fail
  refine (rclasses_any m a1 c1 a2 c2 w3 (h0.nx.rd.below b3) (h0.out.rd.below b3) mn mo).mono ?_
  rintro e w4 ⟨v', rfl, hv', hb4⟩
  obtain ⟨av', cv', rfl, -, -, -, rv', -⟩ := hv'.shape
  have b4 := bstep b3 hb4
  have rv := rv.below hb4
  have hlen := cs_len m
  have te := self_eq (csV m).2.2
  have tf := self_eq (csV m).2.1
  clear p0 p1 p2 p3 p4 p5 hb4 B3 b3 hv'
  generalize (csV m).2.2 = E at *
  generalize (csV m).2.1 = r at *
  generalize (csV m).1 = l at *
  go_wp2_with fail
  refine (same_list av av' cv cv' l l w4 rv rv' (by unfold maxLen; omega)).mono ?_
  rw [show decide (l = l) = true from decide_eq_true rfl]
  rintro e w5 ⟨rfl, hb5⟩
  have b5 := bstep b4 hb5
  clear hb5 b4 rv rv'
  go_wp2_with (first | (go_at_call 15; refine (num_any _ _).mono ?_; rintro e w' ⟨rfl, rfl⟩) | (go_at_call 10; refine (live_any _).mono ?_; rintro e wl ⟨rfl, hbl⟩))
  go_ret
  exact ⟨rfl, bstep b5 hbl⟩

end Go.Proofs.Ytoiogggibfmncaa
