/-
  The law MooreAfters, walked: it returns true, whatever the table and the length.
-/
import Derived.Test.YtoiogggibfmncaaK12
import Derived.Test.YtoiogggibfmncaaSApi
import Derived.Test.YtoiogggibfmncaaK6
namespace Go.Proofs.Ytoiogggibfmncaa
open Go.RowKit

theorem af_len (m : Mc) (n : Int) : (afV m n).1.length ≤ 1024 := by
  by_cases h : (mchV m).2 = 0
  · by_cases hn : n < 0
    · rw [afV_arg h hn]; exact Nat.zero_le _
    · rw [afV_ok h (by omega)]
      have := (right_of h).n1
      show (aftL m n.toNat).length ≤ 1024
      rw [aft_len]; omega
  · rw [afV_err h]; exact Nat.zero_le _

set_option maxRecDepth 100000 in
set_option maxHeartbeats 1000000 in
theorem mooreAfters_walk (m : Mc) (a1 : Option Addr) (c1 : Nat) (a2 : Option Addr) (c2 : Nat) (n : Int) (w : World) (h0 : ArgM w m a1 c1 a2 c2) (hn : Fits n) :
    Calls Try.prog 3 #[mval m a1 c1 a2 c2, .int .i64 n] w fun e w' => e = .returned (.bool true) ∧ Below w.heap.size w w' := by
  unfold mval
  have B0 := Box.alloc w m a1 c1 a2 c2 24
  have b0 := ballo w (.cells #[.int .i64 m.kind, .int .i64 m.k, .int .i64 m.o, .int .i64 m.n, .slice a1 m.nx.length c1, .slice a2 m.out.length c2] 24)
  cases hbig : bigB 60 m
  rotate_left
  · go_enter Try.func3, Try.ntmps3
    go_wp2_with fail
    refine (big_any 60 m a1 c1 a2 c2 _).mono ?_
    rw [hbig]
    rintro e w1 ⟨rfl, hb1⟩
    have b1 := bstep b0 hb1
    go_wp2_with (go_at_call 10; refine (live_any _).mono ?_; rintro e wl ⟨rfl, hbl⟩)
    go_ret
    exact ⟨rfl, bstep b1 hbl⟩
  obtain ⟨n60, ln, lo⟩ := big_bounds hbig
  have mn : m.nx.length ≤ maxLen := by unfold maxLen; omega
  have mo : m.out.length ≤ maxLen := by unfold maxLen; omega
  have hf := hn.2
  go_enter Try.func3, Try.ntmps3
  go_wp2_with fail
  refine (big_any 60 m a1 c1 a2 c2 _).mono ?_
  rw [hbig]
  rintro e w1 ⟨rfl, hb1⟩
  have b1 := bstep b0 hb1
  have B1 := B0.below hb1
  obtain ⟨p0, p1, p2, p3, p4, p5⟩ := id B1
  clear hb1
  clear B0 b0 hbig
  go_wp2_with fail
  refine (copy_cap m a1 c1 a2 c2 w1 (h0.nx.rd.below b1) (h0.out.rd.below b1) h0.nx.nil h0.out.nil ln lo).mono ?_
  rintro e w2 ⟨d1, e1, d2, e2, rfl, r1, r2, lc, hb2⟩
  unfold mval
  have y2 := ballo w2 (.cells #[.int .i64 m.kind, .int .i64 m.k, .int .i64 m.o, .int .i64 m.n, .slice d1 m.nx.length e1, .slice d2 m.out.length e2] 24)
  have x2 := bstep hb2 y2
  have b2 := bstep b1 x2
  have B2 := B1.below x2
  have C2 := Box.alloc w2 m d1 e1 d2 e2 24
  have r1 := r1.below y2
  have r2 := r2.below y2
  obtain ⟨q0, q1, q2, q3, q4, q5⟩ := id C2
  clear p0 p1 p2 p3 p4 p5 hb2 b1 B1 x2 y2
  go_wp2_with fail
  refine (after_any m d1 e1 d2 e2 n _ r1 r2 lc mn mo hf).mono ?_
  rintro e w3 ⟨v, rfl, hv, hb3⟩
  obtain ⟨av, cv, rfl, -, -, -, rv, -⟩ := hv.shape
  have b3 := bstep b2 hb3
  have B3 := B2.below hb3
  have C3 := C2.below hb3
  have r1 := r1.below hb3
  have r2 := r2.below hb3
  obtain ⟨p0, p1, p2, p3, p4, p5⟩ := id B3
  clear q0 q1 q2 q3 q4 q5 hb3 B2 b2 C2 hv
  go_wp2_with fail
  refine (rafter_any m a1 c1 a2 c2 n w3 (h0.nx.rd.below b3) (h0.out.rd.below b3) mn mo hf).mono ?_
  rintro e w4 ⟨v', rfl, hv', hb4⟩
  obtain ⟨av', cv', rfl, -, -, -, rv', -⟩ := hv'.shape
  have b4 := bstep b3 hb4
  have B4 := B3.below hb4
  have C4 := C3.below hb4
  have r1 := r1.below hb4
  have r2 := r2.below hb4
  have rv := rv.below hb4
  have hlen := af_len m n
  have te := self_eq (afV m n).2
  clear p0 p1 p2 p3 p4 p5 hb4 B3 b3 C3 hv'
  generalize (afV m n).2 = E at *
  generalize (afV m n).1 = l at *
  go_wp2_with fail
  refine (same_list av av' cv cv' l l w4 rv rv' (by unfold maxLen; omega)).mono ?_
  rw [show decide (l = l) = true from decide_eq_true rfl]
  rintro e w5 ⟨rfl, hb5⟩
  have b5 := bstep b4 hb5
  have B5 := B4.below hb5
  have C5 := C4.below hb5
  have r1 := r1.below hb5
  have r2 := r2.below hb5
  obtain ⟨p0, p1, p2, p3, p4, p5⟩ := id B5
  obtain ⟨q0, q1, q2, q3, q4, q5⟩ := id C5
  clear hb5 B4 b4 C4 rv rv'
  go_wp2_with (go_at_call 15; refine (num_any _ _).mono ?_; rintro e w' ⟨rfl, rfl⟩)
  refine (msame_any m d1 e1 d2 e2 a1 c1 a2 c2 _ r1 r2 (h0.nx.rd.below b5) (h0.out.rd.below b5) mn mo).mono ?_
  rintro e w6 ⟨rfl, hb6⟩
  have b6 := bstep b5 hb6
  go_wp2_with (go_at_call 10; refine (live_any _).mono ?_; rintro e wl ⟨rfl, hbl⟩)
  go_ret
  exact ⟨rfl, bstep b6 hbl⟩

end Go.Proofs.Ytoiogggibfmncaa
