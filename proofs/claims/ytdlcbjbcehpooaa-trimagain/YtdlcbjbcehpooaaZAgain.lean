/-
  The law TrimAgain, walked: it returns true, whatever the table and the list.
-/
import Derived.Test.YtdlcbjbcehpooaaZBase
namespace Go.Proofs.Ytdlcbjbcehpooaa
open Go.RowKit

set_option maxRecDepth 100000 in
set_option maxHeartbeats 1000000 in
theorem trimAgain_walk (m : Mc) (a1 : Option Addr) (c1 : Nat) (a2 : Option Addr) (c2 : Nat) (a0 : Option Addr) (c0 : Nat) (wd : List Int) (w : World) (h0 : ArgM w m a1 c1 a2 c2) (g0 : ArgL .i64 8 w a0 c0 wd) :
    Calls Try.prog 7 #[mval m a1 c1 a2 c2, .slice a0 wd.length c0] w fun e w' => e = .returned (.bool true) ∧ Below w.heap.size w w' := by
  unfold mval
  have B0 := Box.alloc w m a1 c1 a2 c2 24
  have b0 := ballo w (.cells #[.int .i64 m.kind, .int .i64 m.k, .int .i64 m.o, .int .i64 m.n, .slice a1 m.nx.length c1, .slice a2 m.out.length c2] 24)
  cases hbig : bigB 300 m
  rotate_left
  · go_enter Try.func7, Try.ntmps7
    go_wp2_with fail
    refine (big_any 300 m a1 c1 a2 c2 _).mono ?_
    rw [hbig]
    rintro e w1 ⟨rfl, hb1⟩
    have b1 := bstep b0 hb1
    go_wp2_with (go_at_call 10; refine (live_any _).mono ?_; rintro e wl ⟨rfl, hbl⟩)
    go_ret
    exact ⟨rfl, bstep b1 hbl⟩
  obtain ⟨n300, ln, lo⟩ := big_bounds hbig
  have mn : m.nx.length ≤ maxLen := by unfold maxLen; omega
  have mo : m.out.length ≤ maxLen := by unfold maxLen; omega
  by_cases hlong : 600 < wd.length
  · go_enter Try.func7, Try.ntmps7
    go_wp2_with fail
    refine (big_any 300 m a1 c1 a2 c2 _).mono ?_
    rw [hbig]
    rintro e w1 ⟨rfl, hb1⟩
    have b1 := bstep b0 hb1
    have B1 := B0.below hb1
    obtain ⟨p0, p1, p2, p3, p4, p5⟩ := id B1
    clear hb1
    go_wp2_with (go_at_call 10; refine (live_any _).mono ?_; rintro e wl ⟨rfl, hbl⟩)
    go_ret
    exact ⟨rfl, bstep b1 hbl⟩
  have ml : wd.length ≤ maxLen := by unfold maxLen; omega
  by_cases hz : (mchV m).2 = 0
  rotate_left
  · have HV := hide (cnV_err hz)
    have tz := ne_bne hz
    clear hz
    go_enter Try.func7, Try.ntmps7
    go_wp2_with fail
    refine (big_any 300 m a1 c1 a2 c2 _).mono ?_
    rw [hbig]
    rintro e w1 ⟨rfl, hb1⟩
    have b1 := bstep b0 hb1
    have B1 := B0.below hb1
    obtain ⟨p0, p1, p2, p3, p4, p5⟩ := id B1
    clear hb1
    clear B0 b0 hbig
    go_wp2_with fail
    refine (canon_any m a1 c1 a2 c2 w1 (h0.nx.rd.below b1) (h0.out.rd.below b1) h0.out.le mn mo).mono ?_
    rw [unhide HV]
    rintro e w2 ⟨d1, e1, d2, e2, rfl, i1, i2, -, hb2⟩
    have b2 := bstep (bstep b1 hb2) (ballo w2 (.cells #[.int .i64 mc0.kind, .int .i64 mc0.k, .int .i64 mc0.o, .int .i64 mc0.n, .slice d1 mc0.nx.length e1, .slice d2 mc0.out.length e2] 24))
    unfold mval
    clear i1 i2 hb2
    go_wp2_with (first | (go_at_call 16; refine (num_any _ _).mono ?_; rintro e w' ⟨rfl, rfl⟩) | (go_at_call 10; refine (live_any _).mono ?_; rintro e wl ⟨rfl, hbl⟩))
    go_ret
    exact ⟨rfl, bstep b2 hbl⟩
  have HV := hide (cnV_ok hz)
  have F := full_of hz
  have HVc : Hid (cnV (canM m) = (canM m, 0)) := by show _ = _; rw [cnV_ok (mch_full (full_can F)), can_can F]
  by_cases hp : IsP wd m.n
  rotate_left
  · have HT := hide (tnV_no hz hp)
    clear hp hz F
    go_enter Try.func7, Try.ntmps7
    go_wp2_with fail
    refine (big_any 300 m a1 c1 a2 c2 _).mono ?_
    rw [hbig]
    rintro e w1 ⟨rfl, hb1⟩
    have b1 := bstep b0 hb1
    have B1 := B0.below hb1
    obtain ⟨p0, p1, p2, p3, p4, p5⟩ := id B1
    clear hb1
    clear B0 b0 hbig
    go_wp2_with fail
    refine (canon_any m a1 c1 a2 c2 w1 (h0.nx.rd.below b1) (h0.out.rd.below b1) h0.out.le mn mo).mono ?_
    rw [unhide HV]
    rintro e w2 ⟨d1, e1, d2, e2, rfl, i1, i2, -, hb2⟩
    dsimp only at i1 i2 ⊢
    generalize canM m = c at *
    obtain ⟨_, _, E1, -, l1, l1', s1, -⟩ := i1.shape
    cases E1
    obtain ⟨_, _, E2, -, l2, l2', s2, -⟩ := i2.shape
    cases E2
    have cn : c.nx.length ≤ maxLen := by omega
    have co : c.out.length ≤ maxLen := by omega
    have x2 := bstep hb2 (ballo w2 (.cells #[.int .i64 c.kind, .int .i64 c.k, .int .i64 c.o, .int .i64 c.n, .slice d1 c.nx.length e1, .slice d2 c.out.length e2] 24))
    have b2 := bstep b1 x2
    have B2 := B1.below x2
    have C2 := Box.alloc w2 c d1 e1 d2 e2 24
    have s1 := s1.below (ballo w2 (.cells #[.int .i64 c.kind, .int .i64 c.k, .int .i64 c.o, .int .i64 c.n, .slice d1 c.nx.length e1, .slice d2 c.out.length e2] 24))
    have s2 := s2.below (ballo w2 (.cells #[.int .i64 c.kind, .int .i64 c.k, .int .i64 c.o, .int .i64 c.n, .slice d1 c.nx.length e1, .slice d2 c.out.length e2] 24))
    obtain ⟨q0, q1, q2, q3, q4, q5⟩ := id C2
    unfold mval
    clear i1 i2 hb2 p0 p1 p2 p3 p4 p5 B1 b1 x2
    go_wp2_with (go_at_call 16; refine (num_any _ _).mono ?_; rintro e w' ⟨rfl, rfl⟩)
    refine (canon_any c d1 e1 d2 e2 _ s1 s2 l2 cn co).mono ?_
    rw [unhide HVc]
    rintro e w3 ⟨f1, g1, f2, g2, rfl, i1, i2, -, hb3⟩
    dsimp only at i1 i2 ⊢
    obtain ⟨_, _, E1, -, -, -, t1, -⟩ := i1.shape
    cases E1
    obtain ⟨_, _, E2, -, -, -, t2, -⟩ := i2.shape
    cases E2
    have x3 := bstep hb3 (ballo w3 (.cells #[.int .i64 c.kind, .int .i64 c.k, .int .i64 c.o, .int .i64 c.n, .slice f1 c.nx.length g1, .slice f2 c.out.length g2] 24))
    have b3 := bstep b2 x3
    have B3 := B2.below x3
    have C3 := C2.below x3
    have D3 := Box.alloc w3 c f1 g1 f2 g2 24
    have s1 := s1.below x3
    have s2 := s2.below x3
    have t1 := t1.below (ballo w3 (.cells #[.int .i64 c.kind, .int .i64 c.k, .int .i64 c.o, .int .i64 c.n, .slice f1 c.nx.length g1, .slice f2 c.out.length g2] 24))
    have t2 := t2.below (ballo w3 (.cells #[.int .i64 c.kind, .int .i64 c.k, .int .i64 c.o, .int .i64 c.n, .slice f1 c.nx.length g1, .slice f2 c.out.length g2] 24))
    obtain ⟨y0, y1, y2, y3, y4, y5⟩ := id C3
    obtain ⟨z0, z1, z2, z3, z4, z5⟩ := id D3
    clear q0 q1 q2 q3 q4 q5 i1 i2 hb3 C2 B2 b2 x3
    unfold mval
    go_wp2_with (go_at_call 16; refine (num_any _ _).mono ?_; rintro e w' ⟨rfl, rfl⟩)
    refine (msame_any c d1 e1 d2 e2 f1 g1 f2 g2 _ s1 s2 t1 t2 cn co).mono ?_
    rintro e w4 ⟨rfl, hb4⟩
    have b4 := bstep b3 hb4
    have B4 := B3.below hb4
    have C4 := C3.below hb4
    have s1 := s1.below hb4
    have s2 := s2.below hb4
    obtain ⟨q0, q1, q2, q3, q4, q5⟩ := id B4
    clear y0 y1 y2 y3 y4 y5 z0 z1 z2 z3 z4 z5 t1 t2 hb4 C3 D3 B3 b3
    go_wp2_with fail
    refine (turn_any m a1 c1 a2 c2 a0 c0 wd w4 (h0.nx.rd.below b4) (h0.out.rd.below b4) h0.out.le mn mo (g0.rd.below b4) ml g0.fits).mono ?_
    rw [unhide HT]
    rintro e w5 ⟨h1, k1, h2, k2, rfl, i1, i2, -, hb5⟩
    have b5 := bstep (bstep b4 hb5) (ballo w5 (.cells #[.int .i64 mc0.kind, .int .i64 mc0.k, .int .i64 mc0.o, .int .i64 mc0.n, .slice h1 mc0.nx.length k1, .slice h2 mc0.out.length k2] 24))
    obtain ⟨y0, y1, y2, y3, y4, y5⟩ := Box.alloc w5 mc0 h1 k1 h2 k2 24
    unfold mval
    clear i1 i2 hb5
    have tn : (mc0.n == 0) = true := rfl
    go_wp2_with (first | (go_at_call 16; refine (num_any _ _).mono ?_; rintro e w' ⟨rfl, rfl⟩) | (go_at_call 10; refine (live_any _).mono ?_; rintro e wl ⟨rfl, hbl⟩))
    go_ret
    exact ⟨rfl, bstep b5 hbl⟩
  have HT := hide (tnV_ok hz hp)
  have HVt : Hid (cnV (turM m wd) = (canM m, 0)) := by show _ = _; rw [cnV_ok (mch_full (full_tur F hp)), can_tur F hp]
  clear hp hz F
  go_enter Try.func7, Try.ntmps7
  go_wp2_with fail
  refine (big_any 300 m a1 c1 a2 c2 _).mono ?_
  rw [hbig]
  rintro e w1 ⟨rfl, hb1⟩
  have b1 := bstep b0 hb1
  have B1 := B0.below hb1
  obtain ⟨p0, p1, p2, p3, p4, p5⟩ := id B1
  clear hb1
  clear B0 b0 hbig
  go_wp2_with fail
  refine (canon_any m a1 c1 a2 c2 w1 (h0.nx.rd.below b1) (h0.out.rd.below b1) h0.out.le mn mo).mono ?_
  rw [unhide HV]
  rintro e w2 ⟨d1, e1, d2, e2, rfl, i1, i2, -, hb2⟩
  dsimp only at i1 i2 ⊢
  generalize canM m = c at *
  obtain ⟨_, _, E1, -, l1, l1', s1, -⟩ := i1.shape
  cases E1
  obtain ⟨_, _, E2, -, l2, l2', s2, -⟩ := i2.shape
  cases E2
  have cn : c.nx.length ≤ maxLen := by omega
  have co : c.out.length ≤ maxLen := by omega
  have x2 := bstep hb2 (ballo w2 (.cells #[.int .i64 c.kind, .int .i64 c.k, .int .i64 c.o, .int .i64 c.n, .slice d1 c.nx.length e1, .slice d2 c.out.length e2] 24))
  have b2 := bstep b1 x2
  have B2 := B1.below x2
  have C2 := Box.alloc w2 c d1 e1 d2 e2 24
  have s1 := s1.below (ballo w2 (.cells #[.int .i64 c.kind, .int .i64 c.k, .int .i64 c.o, .int .i64 c.n, .slice d1 c.nx.length e1, .slice d2 c.out.length e2] 24))
  have s2 := s2.below (ballo w2 (.cells #[.int .i64 c.kind, .int .i64 c.k, .int .i64 c.o, .int .i64 c.n, .slice d1 c.nx.length e1, .slice d2 c.out.length e2] 24))
  obtain ⟨q0, q1, q2, q3, q4, q5⟩ := id C2
  unfold mval
  clear i1 i2 hb2 p0 p1 p2 p3 p4 p5 B1 b1 x2
  go_wp2_with (go_at_call 16; refine (num_any _ _).mono ?_; rintro e w' ⟨rfl, rfl⟩)
  refine (canon_any c d1 e1 d2 e2 _ s1 s2 l2 cn co).mono ?_
  rw [unhide HVc]
  rintro e w3 ⟨f1, g1, f2, g2, rfl, i1, i2, -, hb3⟩
  dsimp only at i1 i2 ⊢
  obtain ⟨_, _, E1, -, -, -, t1, -⟩ := i1.shape
  cases E1
  obtain ⟨_, _, E2, -, -, -, t2, -⟩ := i2.shape
  cases E2
  have x3 := bstep hb3 (ballo w3 (.cells #[.int .i64 c.kind, .int .i64 c.k, .int .i64 c.o, .int .i64 c.n, .slice f1 c.nx.length g1, .slice f2 c.out.length g2] 24))
  have b3 := bstep b2 x3
  have B3 := B2.below x3
  have C3 := C2.below x3
  have D3 := Box.alloc w3 c f1 g1 f2 g2 24
  have s1 := s1.below x3
  have s2 := s2.below x3
  have t1 := t1.below (ballo w3 (.cells #[.int .i64 c.kind, .int .i64 c.k, .int .i64 c.o, .int .i64 c.n, .slice f1 c.nx.length g1, .slice f2 c.out.length g2] 24))
  have t2 := t2.below (ballo w3 (.cells #[.int .i64 c.kind, .int .i64 c.k, .int .i64 c.o, .int .i64 c.n, .slice f1 c.nx.length g1, .slice f2 c.out.length g2] 24))
  obtain ⟨y0, y1, y2, y3, y4, y5⟩ := id C3
  obtain ⟨z0, z1, z2, z3, z4, z5⟩ := id D3
  clear q0 q1 q2 q3 q4 q5 i1 i2 hb3 C2 B2 b2 x3
  unfold mval
  go_wp2_with (go_at_call 16; refine (num_any _ _).mono ?_; rintro e w' ⟨rfl, rfl⟩)
  refine (msame_any c d1 e1 d2 e2 f1 g1 f2 g2 _ s1 s2 t1 t2 cn co).mono ?_
  rintro e w4 ⟨rfl, hb4⟩
  have b4 := bstep b3 hb4
  have B4 := B3.below hb4
  have C4 := C3.below hb4
  have s1 := s1.below hb4
  have s2 := s2.below hb4
  obtain ⟨q0, q1, q2, q3, q4, q5⟩ := id B4
  clear y0 y1 y2 y3 y4 y5 z0 z1 z2 z3 z4 z5 t1 t2 hb4 C3 D3 B3 b3
  go_wp2_with fail
  refine (turn_any m a1 c1 a2 c2 a0 c0 wd w4 (h0.nx.rd.below b4) (h0.out.rd.below b4) h0.out.le mn mo (g0.rd.below b4) ml g0.fits).mono ?_
  rw [unhide HT]
  rintro e w5 ⟨h1, k1, h2, k2, rfl, i1, i2, -, hb5⟩
  dsimp only at i1 i2 ⊢
  generalize turM m wd = t at *
  obtain ⟨_, _, E1, -, m1, m1', t1, -⟩ := i1.shape
  cases E1
  obtain ⟨_, _, E2, -, m2, m2', t2, -⟩ := i2.shape
  cases E2
  have tn : t.nx.length ≤ maxLen := by omega
  have to : t.out.length ≤ maxLen := by omega
  have x5 := bstep hb5 (ballo w5 (.cells #[.int .i64 t.kind, .int .i64 t.k, .int .i64 t.o, .int .i64 t.n, .slice h1 t.nx.length k1, .slice h2 t.out.length k2] 24))
  have b5 := bstep b4 x5
  have C5 := C4.below x5
  have T5 := Box.alloc w5 t h1 k1 h2 k2 24
  have s1 := s1.below x5
  have s2 := s2.below x5
  have t1 := t1.below (ballo w5 (.cells #[.int .i64 t.kind, .int .i64 t.k, .int .i64 t.o, .int .i64 t.n, .slice h1 t.nx.length k1, .slice h2 t.out.length k2] 24))
  have t2 := t2.below (ballo w5 (.cells #[.int .i64 t.kind, .int .i64 t.k, .int .i64 t.o, .int .i64 t.n, .slice h1 t.nx.length k1, .slice h2 t.out.length k2] 24))
  obtain ⟨y0, y1, y2, y3, y4, y5⟩ := id T5
  unfold mval
  clear i1 i2 hb5 q0 q1 q2 q3 q4 q5 B4 C4 b4 x5
  go_wp2_with (go_at_call 16; refine (num_any _ _).mono ?_; rintro e w' ⟨rfl, rfl⟩)
  refine (canon_any t h1 k1 h2 k2 _ t1 t2 m2 tn to).mono ?_
  rw [unhide HVt]
  rintro e w6 ⟨u1, v1, u2, v2, rfl, i1, i2, -, hb6⟩
  dsimp only at i1 i2 ⊢
  obtain ⟨_, _, E1, -, -, -, t3, -⟩ := i1.shape
  cases E1
  obtain ⟨_, _, E2, -, -, -, t4, -⟩ := i2.shape
  cases E2
  have x6 := bstep hb6 (ballo w6 (.cells #[.int .i64 c.kind, .int .i64 c.k, .int .i64 c.o, .int .i64 c.n, .slice u1 c.nx.length v1, .slice u2 c.out.length v2] 24))
  have b6 := bstep b5 x6
  obtain ⟨q0, q1, q2, q3, q4, q5⟩ := C5.below x6
  obtain ⟨z0, z1, z2, z3, z4, z5⟩ := Box.alloc w6 c u1 v1 u2 v2 24
  have s1 := s1.below x6
  have s2 := s2.below x6
  have t3 := t3.below (ballo w6 (.cells #[.int .i64 c.kind, .int .i64 c.k, .int .i64 c.o, .int .i64 c.n, .slice u1 c.nx.length v1, .slice u2 c.out.length v2] 24))
  have t4 := t4.below (ballo w6 (.cells #[.int .i64 c.kind, .int .i64 c.k, .int .i64 c.o, .int .i64 c.n, .slice u1 c.nx.length v1, .slice u2 c.out.length v2] 24))
  clear y0 y1 y2 y3 y4 y5 i1 i2 hb6 C5 T5 b5 x6
  unfold mval
  go_wp2_with (go_at_call 16; refine (num_any _ _).mono ?_; rintro e w' ⟨rfl, rfl⟩)
  refine (msame_any c u1 v1 u2 v2 d1 e1 d2 e2 _ t3 t4 s1 s2 cn co).mono ?_
  rintro e w7 ⟨rfl, hb7⟩
  have b7 := bstep b6 hb7
  go_wp2_with (go_at_call 10; refine (live_any _).mono ?_; rintro e wl ⟨rfl, hbl⟩)
  go_ret
  exact ⟨rfl, bstep b7 hbl⟩

end Go.Proofs.Ytdlcbjbcehpooaa
