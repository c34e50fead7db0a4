/-
  The law BlockHopcrofts, walked: it returns true, whatever the table.
-/
import Derived.Test.YtnakadlhafggkaaQHopc
import Derived.Test.YtnakadlhafggkaaSApiC
import Derived.Test.YtnakadlhafggkaaK6
import Derived.Test.YtnakadlhafggkaaK5
import Derived.Test.YtnakadlhafggkaaQLive
namespace Go.Proofs.Ytnakadlhafggkaa
open Go.RowKit

theorem big_bounds {N : Int} {m : Mc} (h : bigB N m = false) : m.n ≤ N ∧ m.nx.length ≤ 70000 ∧ m.out.length ≤ 70000 := by
  unfold bigB at h
  have := of_decide_eq_false h
  omega
theorem self_eq (x : Int) : (x == x) = true := by simp
theorem cs_len (m : Mc) : (csV m).1.length ≤ 1024 := by
  by_cases h : (mchV m).2 = 0
  · rw [csV_ok h]
    have := (right_of h).n1
    show (aftL m (rdV m)).length ≤ 1024
    rw [aft_len]; omega
  · rw [csV_err h]; exact Nat.zero_le _

set_option maxRecDepth 100000 in
set_option maxHeartbeats 1000000 in
theorem blockHopcrofts_walk (m : Mc) (a1 : Option Addr) (c1 : Nat) (a2 : Option Addr) (c2 : Nat) (w : World) (h0 : ArgM w m a1 c1 a2 c2) :
    Calls Try.prog 6 #[mval m a1 c1 a2 c2] w fun e w' => e = .returned (.bool true) ∧ Below w.heap.size w w' := by
  unfold mval
  have B0 := Box.alloc w m a1 c1 a2 c2 51
  have b0 := ballo w (.cells #[.int .i64 m.kind, .int .i64 m.k, .int .i64 m.o, .int .i64 m.n, .slice a1 m.nx.length c1, .slice a2 m.out.length c2] 51)
  cases hbig : bigB 60 m
  rotate_left
  · go_enter Try.func6, Try.ntmps6
    go_wp2_with fail
    refine (big_any 60 m a1 c1 a2 c2 _).mono ?_
    rw [hbig]
    rintro e w1 ⟨rfl, hb1⟩
    have b1 := bstep b0 hb1
    go_wp2_with (go_at_call 9; refine (live_any _).mono ?_; rintro e wl ⟨rfl, hbl⟩)
    go_ret
    exact ⟨rfl, bstep b1 hbl⟩
  obtain ⟨n60, ln, lo⟩ := big_bounds hbig
  have mn : m.nx.length ≤ maxLen := by unfold maxLen; omega
  have mo : m.out.length ≤ maxLen := by unfold maxLen; omega
  go_enter Try.func6, Try.ntmps6
  go_wp2_with fail
  refine (big_any 60 m a1 c1 a2 c2 _).mono ?_
  rw [hbig]
  rintro e w1 ⟨rfl, hb1⟩
  have b1 := bstep b0 hb1
  have B1 := B0.below hb1
  obtain ⟨p0, p1, p2, p3, p4, p5⟩ := id B1
  clear hb1
  clear B0 b0 hbig
  go_wp2_with fail
  refine (copy_any m a1 c1 a2 c2 w1 (h0.nx.rd.below b1) (h0.out.rd.below b1) h0.nx.nil h0.out.nil ln lo).mono ?_
  rintro e w2 ⟨d1, e1, d2, e2, rfl, r1, r2, hb2⟩
  unfold mval
  have b2 := bstep b1 hb2
  have B2 := B1.below hb2
  clear p0 p1 p2 p3 p4 p5 hb2 b1 B1
  have C0 := Box.alloc w2 m d1 e1 d2 e2 51
  have x3 := ballo w2 (.cells #[.int .i64 m.kind, .int .i64 m.k, .int .i64 m.o, .int .i64 m.n, .slice d1 m.nx.length e1, .slice d2 m.out.length e2] 51)
  have b3 := bstep b2 x3
  have B3 := B2.below x3
  have r1 := r1.below x3
  have r2 := r2.below x3
  clear B2 b2 x3
  go_wp2_with fail
  refine (hop_any m d1 e1 d2 e2 _ r1 r2 mn mo).mono ?_
  rintro e w4 ⟨v, rfl, hv, hb4⟩
  obtain ⟨av, cv, rfl, -, -, -, rv, -⟩ := hv.shape
  have b4 := bstep b3 hb4
  have B4 := B3.below hb4
  have C4 := C0.below hb4
  have r1 := r1.below hb4
  have r2 := r2.below hb4
  clear hb4 B3 b3 C0 hv
  obtain ⟨p0, p1, p2, p3, p4, p5⟩ := id B4
  go_wp2_with fail
  refine (rclasses_any m a1 c1 a2 c2 w4 (h0.nx.rd.below b4) (h0.out.rd.below b4) mn mo).mono ?_
  rintro e w5 ⟨v', rfl, hv', hb5⟩
  obtain ⟨av', cv', rfl, -, -, -, rv', -⟩ := hv'.shape
  have b5 := bstep b4 hb5
  have rv := rv.below hb5
  have B5 := B4.below hb5
  have C5 := C4.below hb5
  have r1 := r1.below hb5
  have r2 := r2.below hb5
  have hlen := cs_len m
  have te := self_eq (csV m).2.2
  clear p0 p1 p2 p3 p4 p5 hb5 B4 b4 C4 hv'
  generalize (csV m).2.2 = E at *
  generalize (csV m).2.1 = r at *
  generalize (csV m).1 = l at *
  go_wp2_with fail
  refine (same_list av av' cv cv' l l w5 rv rv' (by unfold maxLen; omega)).mono ?_
  rw [show decide (l = l) = true from decide_eq_true rfl]
  rintro e w6 ⟨rfl, hb6⟩
  have b6 := bstep b5 hb6
  have B6 := B5.below hb6
  have C6 := C5.below hb6
  have r1 := r1.below hb6
  have r2 := r2.below hb6
  clear hb6 b5 rv rv' B5 C5
  obtain ⟨p0, p1, p2, p3, p4, p5⟩ := id B6
  obtain ⟨q0, q1, q2, q3, q4, q5⟩ := id C6
  go_wp2_with (go_at_call 12; refine (num_any _ _).mono ?_; rintro e w' ⟨rfl, rfl⟩)
  refine (msame_any m d1 e1 d2 e2 a1 c1 a2 c2 _ r1 r2 (h0.nx.rd.below b6) (h0.out.rd.below b6) mn mo).mono ?_
  rintro e w7 ⟨rfl, hb7⟩
  have b7 := bstep b6 hb7
  clear hb7 b6 r1 r2 p0 p1 p2 p3 p4 p5 q0 q1 q2 q3 q4 q5 B6 C6
  go_wp2_with (go_at_call 9; refine (live_any _).mono ?_; rintro e wl ⟨rfl, hbl⟩)
  go_ret
  exact ⟨rfl, bstep b7 hbl⟩

end Go.Proofs.Ytnakadlhafggkaa
