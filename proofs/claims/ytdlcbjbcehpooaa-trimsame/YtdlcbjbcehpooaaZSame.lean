/-
  The law TrimSame, walked: it returns true, whatever the table and the list.
-/
import Derived.Test.YtdlcbjbcehpooaaZBase
namespace Go.Proofs.Ytdlcbjbcehpooaa
open Go.RowKit

set_option maxRecDepth 100000 in
set_option maxHeartbeats 1000000 in
theorem trimSame_walk (m : Mc) (a1 : Option Addr) (c1 : Nat) (a2 : Option Addr) (c2 : Nat) (a0 : Option Addr) (c0 : Nat) (wd : List Int) (w : World) (h0 : ArgM w m a1 c1 a2 c2) (g0 : ArgL .i64 8 w a0 c0 wd) :
    Calls Try.prog 6 #[mval m a1 c1 a2 c2, .slice a0 wd.length c0] w fun e w' => e = .returned (.bool true) ∧ Below w.heap.size w w' := by
  unfold mval
  have B0 := Box.alloc w m a1 c1 a2 c2 24
  have b0 := ballo w (.cells #[.int .i64 m.kind, .int .i64 m.k, .int .i64 m.o, .int .i64 m.n, .slice a1 m.nx.length c1, .slice a2 m.out.length c2] 24)
  cases hbig : bigB 300 m
  rotate_left
  · go_enter Try.func6, Try.ntmps6
    go_wp2_with fail
    refine (big_any 300 m a1 c1 a2 c2 _).mono ?_
    rw [hbig]
    rintro e w1 ⟨rfl, hb1⟩
    have b1 := bstep b0 hb1
    go_wp2_with (go_at_call 10; refine (live_any _).mono ?_; rintro e wl ⟨rfl, hbl⟩)
    go_ret
    exact ⟨rfl, bstep b1 hbl⟩
  obtain ⟨n300, ln, lo⟩ := big_bounds hbig
  have mn : m.nx.length ≤ maxLen := by unfold maxLen; omega
  have mo : m.out.length ≤ maxLen := by unfold maxLen; omega
  by_cases hlong : 2000 < wd.length
  · go_enter Try.func6, Try.ntmps6
    go_wp2_with fail
    refine (big_any 300 m a1 c1 a2 c2 _).mono ?_
    rw [hbig]
    rintro e w1 ⟨rfl, hb1⟩
    have b1 := bstep b0 hb1
    have B1 := B0.below hb1
    obtain ⟨p0, p1, p2, p3, p4, p5⟩ := id B1
    clear hb1
    go_wp2_with (go_at_call 10; refine (live_any _).mono ?_; rintro e wl ⟨rfl, hbl⟩)
    go_ret
    exact ⟨rfl, bstep b1 hbl⟩
  have ml : wd.length ≤ maxLen := by unfold maxLen; omega
  by_cases hz : (mchV m).2 = 0
  rotate_left
  · have HV := hide (cnV_err hz)
    have tz := ne_bne hz
    clear hz
    go_enter Try.func6, Try.ntmps6
    go_wp2_with fail
    refine (big_any 300 m a1 c1 a2 c2 _).mono ?_
    rw [hbig]
    rintro e w1 ⟨rfl, hb1⟩
    have b1 := bstep b0 hb1
    have B1 := B0.below hb1
    obtain ⟨p0, p1, p2, p3, p4, p5⟩ := id B1
    clear hb1
    clear B0 b0 hbig
    go_wp2_with fail
    refine (canon_any m a1 c1 a2 c2 w1 (h0.nx.rd.below b1) (h0.out.rd.below b1) h0.out.le mn mo).mono ?_
    rw [unhide HV]
    rintro e w2 ⟨d1, e1, d2, e2, rfl, i1, i2, -, hb2⟩
    have b2 := bstep (bstep b1 hb2) (ballo w2 (.cells #[.int .i64 mc0.kind, .int .i64 mc0.k, .int .i64 mc0.o, .int .i64 mc0.n, .slice d1 mc0.nx.length e1, .slice d2 mc0.out.length e2] 24))
    obtain ⟨q0, q1, q2, q3, q4, q5⟩ := Box.alloc w2 mc0 d1 e1 d2 e2 24
    unfold mval
    clear i1 i2 hb2
    have tn : (mc0.n == 0) = true := rfl
    go_wp2_with (first | (go_at_call 16; refine (num_any _ _).mono ?_; rintro e w' ⟨rfl, rfl⟩) | (go_at_call 10; refine (live_any _).mono ?_; rintro e wl ⟨rfl, hbl⟩))
    go_ret
    exact ⟨rfl, bstep b2 hbl⟩
  have HV := hide (cnV_ok hz)
  have HC := hide (fromV_can hz wd)
  have F := full_of hz
  have HRc := hide (mch_full (full_can F))
  have hle : (canM m).n ≤ m.n := (rch_len F.r).2
  clear hz F
  go_enter Try.func6, Try.ntmps6
  go_wp2_with fail
  refine (big_any 300 m a1 c1 a2 c2 _).mono ?_
  rw [hbig]
  rintro e w1 ⟨rfl, hb1⟩
  have b1 := bstep b0 hb1
  have B1 := B0.below hb1
  obtain ⟨p0, p1, p2, p3, p4, p5⟩ := id B1
  clear hb1
  clear B0 b0 hbig
  go_wp2_with fail
  refine (canon_any m a1 c1 a2 c2 w1 (h0.nx.rd.below b1) (h0.out.rd.below b1) h0.out.le mn mo).mono ?_
  rw [unhide HV]
  rintro e w2 ⟨d1, e1, d2, e2, rfl, i1, i2, -, hb2⟩
  dsimp only at i1 i2 ⊢
  generalize canM m = c at *
  obtain ⟨_, _, E1, -, l1, l1', s1, -⟩ := i1.shape
  cases E1
  obtain ⟨_, _, E2, -, l2, l2', s2, -⟩ := i2.shape
  cases E2
  have cn : c.nx.length ≤ maxLen := by omega
  have co : c.out.length ≤ maxLen := by omega
  have x2 := bstep hb2 (ballo w2 (.cells #[.int .i64 c.kind, .int .i64 c.k, .int .i64 c.o, .int .i64 c.n, .slice d1 c.nx.length e1, .slice d2 c.out.length e2] 24))
  have b2 := bstep b1 x2
  have B2 := B1.below x2
  have C2 := Box.alloc w2 c d1 e1 d2 e2 24
  have s1 := s1.below (ballo w2 (.cells #[.int .i64 c.kind, .int .i64 c.k, .int .i64 c.o, .int .i64 c.n, .slice d1 c.nx.length e1, .slice d2 c.out.length e2] 24))
  have s2 := s2.below (ballo w2 (.cells #[.int .i64 c.kind, .int .i64 c.k, .int .i64 c.o, .int .i64 c.n, .slice d1 c.nx.length e1, .slice d2 c.out.length e2] 24))
  obtain ⟨q0, q1, q2, q3, q4, q5⟩ := id B2
  unfold mval
  clear i1 i2 hb2 p0 p1 p2 p3 p4 p5 B1 b1 x2
  go_wp2_with (go_at_call 16; refine (num_any _ _).mono ?_; rintro e w' ⟨rfl, rfl⟩)
  refine (rrun_any m a1 c1 a2 c2 a0 c0 wd _ (h0.nx.rd.below b2) (h0.out.rd.below b2) (g0.rd.below b2) mn mo ml).mono ?_
  rintro e w3 ⟨v3, rfl, I3, hb3⟩
  obtain ⟨av, cv, ev, -, lv, lv', S3, -⟩ := I3.shape
  subst ev
  have b3 := bstep b2 hb3
  have C3 := C2.below hb3
  have B3 := B2.below hb3
  have s1 := s1.below hb3
  have s2 := s2.below hb3
  obtain ⟨t0, t1, t2, t3, t4, t5⟩ := id C3
  clear q0 q1 q2 q3 q4 q5 I3 hb3 C2 B2 b2
  go_wp2_with fail
  refine (rrun_any c d1 e1 d2 e2 a0 c0 wd w3 s1 s2 (g0.rd.below b3) cn co ml).mono ?_
  rw [unhide HC]
  rintro e w4 ⟨v4, rfl, I4, hb4⟩
  obtain ⟨au, cu, eu, -, -, -, S4, -⟩ := I4.shape
  subst eu
  have b4 := bstep b3 hb4
  have C4 := C3.below hb4
  have B4 := B3.below hb4
  have s1 := s1.below hb4
  have s2 := s2.below hb4
  have S3 := S3.below hb4
  obtain ⟨q0, q1, q2, q3, q4, q5⟩ := id C4
  clear t0 t1 t2 t3 t4 t5 I4 hb4 C3 B3 b3
  have lf : (fromV m 0 wd).2.1.length ≤ maxLen := by omega
  have te := self_eq (fromV m 0 wd).2.2
  generalize (fromV m 0 wd).2.1 = L at *
  generalize (fromV m 0 wd).2.2 = E at *
  go_wp2_with fail
  refine (right_any c d1 e1 d2 e2 w4 s1 s2 cn co).mono ?_
  rw [show ((mchV c).2 == 0) = true from eq_t (unhide HRc)]
  rintro e w5 ⟨rfl, hb5⟩
  have b5 := bstep b4 hb5
  have C5 := C4.below hb5
  have B5 := B4.below hb5
  have S3 := S3.below hb5
  have S4 := S4.below hb5
  clear q0 q1 q2 q3 q4 q5 hb5 C4 B4 b4
  go_wp2_with fail
  refine (same_list av au cv cu L L w5 S3 S4 lf).mono ?_
  rw [show decide (L = L) = true from decide_eq_true rfl]
  rintro e w6 ⟨rfl, hb6⟩
  have b6 := bstep b5 hb6
  obtain ⟨q0, q1, q2, q3, q4, q5⟩ := C5.below hb6
  obtain ⟨t0, t1, t2, t3, t4, t5⟩ := B5.below hb6
  clear hb6 C5 B5 b5 S3 S4
  go_wp2_with (go_at_call 10; refine (live_any _).mono ?_; rintro e wl ⟨rfl, hbl⟩)
  go_ret
  exact ⟨rfl, bstep b6 hbl⟩

end Go.Proofs.Ytdlcbjbcehpooaa
