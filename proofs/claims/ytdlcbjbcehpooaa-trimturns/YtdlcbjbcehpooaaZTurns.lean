/-
  The law TrimTurns, walked: it returns true, whatever the table and the list.
-/
import Derived.Test.YtdlcbjbcehpooaaZBase
import Derived.Test.YtdlcbjbcehpooaaRTurn
import Derived.Test.YtdlcbjbcehpooaaMCopy2
namespace Go.Proofs.Ytdlcbjbcehpooaa
open Go.RowKit

set_option maxRecDepth 100000 in
set_option maxHeartbeats 1000000 in
theorem trimTurns_walk (m : Mc) (a1 : Option Addr) (c1 : Nat) (a2 : Option Addr) (c2 : Nat) (a0 : Option Addr) (c0 : Nat) (wd : List Int) (w : World) (h0 : ArgM w m a1 c1 a2 c2) (g0 : ArgL .i64 8 w a0 c0 wd) :
    Calls Try.prog 5 #[mval m a1 c1 a2 c2, .slice a0 wd.length c0] w fun e w' => e = .returned (.bool true) ∧ Below w.heap.size w w' := by
  unfold mval
  have B0 := Box.alloc w m a1 c1 a2 c2 24
  have b0 := ballo w (.cells #[.int .i64 m.kind, .int .i64 m.k, .int .i64 m.o, .int .i64 m.n, .slice a1 m.nx.length c1, .slice a2 m.out.length c2] 24)
  cases hbig : bigB 300 m
  rotate_left
  · go_enter Try.func5, Try.ntmps5
    go_wp2_with fail
    refine (big_any 300 m a1 c1 a2 c2 _).mono ?_
    rw [hbig]
    rintro e w1 ⟨rfl, hb1⟩
    have b1 := bstep b0 hb1
    go_wp2_with (go_at_call 10; refine (live_any _).mono ?_; rintro e wl ⟨rfl, hbl⟩)
    go_ret
    exact ⟨rfl, bstep b1 hbl⟩
  obtain ⟨n300, ln, lo⟩ := big_bounds hbig
  have mn : m.nx.length ≤ maxLen := by unfold maxLen; omega
  have mo : m.out.length ≤ maxLen := by unfold maxLen; omega
  by_cases hlong : 600 < wd.length
  · go_enter Try.func5, Try.ntmps5
    go_wp2_with fail
    refine (big_any 300 m a1 c1 a2 c2 _).mono ?_
    rw [hbig]
    rintro e w1 ⟨rfl, hb1⟩
    have b1 := bstep b0 hb1
    have B1 := B0.below hb1
    obtain ⟨p0, p1, p2, p3, p4, p5⟩ := id B1
    clear hb1
    go_wp2_with (go_at_call 10; refine (live_any _).mono ?_; rintro e wl ⟨rfl, hbl⟩)
    go_ret
    exact ⟨rfl, bstep b1 hbl⟩
  have ml : wd.length ≤ maxLen := by unfold maxLen; omega
  go_enter Try.func5, Try.ntmps5
  go_wp2_with fail
  refine (big_any 300 m a1 c1 a2 c2 _).mono ?_
  rw [hbig]
  rintro e w1 ⟨rfl, hb1⟩
  have b1 := bstep b0 hb1
  have B1 := B0.below hb1
  obtain ⟨p0, p1, p2, p3, p4, p5⟩ := id B1
  clear hb1
  clear B0 b0 hbig
  go_wp2_with fail
  refine (copy_cap m a1 c1 a2 c2 w1 (h0.nx.rd.below b1) (h0.out.rd.below b1) h0.nx.nil h0.out.nil ln lo).mono ?_
  rintro e w2 ⟨d1, e1, d2, e2, rfl, r1, r2, lc, hb2⟩
  unfold mval
  have b2 := bstep b1 hb2
  have B2 := B1.below hb2
  clear p0 p1 p2 p3 p4 p5 hb2 b1 B1
  go_wp2_with fail
  refine (lent_list a0 c0 wd w2 (g0.rd.below b2) g0.nil (by omega)).mono ?_
  rintro e w3 ⟨gl, cl, rfl, hL, hb3⟩
  have x3 := bstep hb3 (ballo w3 (.cells #[.int .i64 m.kind, .int .i64 m.k, .int .i64 m.o, .int .i64 m.n, .slice d1 m.nx.length e1, .slice d2 m.out.length e2] 24))
  have b3 := bstep b2 x3
  have B3 := B2.below x3
  have C3 := Box.alloc w3 m d1 e1 d2 e2 24
  have r1 := r1.below x3
  have r2 := r2.below x3
  have hL := hL.below (ballo w3 (.cells #[.int .i64 m.kind, .int .i64 m.k, .int .i64 m.o, .int .i64 m.n, .slice d1 m.nx.length e1, .slice d2 m.out.length e2] 24))
  obtain ⟨q0, q1, q2, q3, q4, q5⟩ := id C3
  clear hb3 b2 B2 x3
  go_wp2_with fail
  refine (turn_any m d1 e1 d2 e2 (some ⟨gl, 0, none⟩) cl wd _ r1 r2 lc mn mo hL.rd ml g0.fits).mono ?_
  rintro e w4 ⟨f1, g1, f2, g2, rfl, i1, i2, -, hb4⟩
  have te := self_eq (tnV m wd).2
  have HCN : Hid (∃ c E, tnV m wd = (c, E)) := ⟨_, _, rfl⟩
  obtain ⟨c, E, hcE⟩ := unhide HCN
  rw [hcE] at i1 i2 te ⊢
  have HC := hide hcE
  clear hcE HCN
  dsimp only at i1 i2 te ⊢
  obtain ⟨_, _, E1, -, l1, l1', s1, -⟩ := i1.shape
  cases E1
  obtain ⟨_, _, E2, -, l2, l2', s2, -⟩ := i2.shape
  cases E2
  have cn : c.nx.length ≤ maxLen := by omega
  have co : c.out.length ≤ maxLen := by omega
  have x4 := bstep hb4 (ballo w4 (.cells #[.int .i64 c.kind, .int .i64 c.k, .int .i64 c.o, .int .i64 c.n, .slice f1 c.nx.length g1, .slice f2 c.out.length g2] 24))
  have b4 := bstep b3 x4
  have B4 := B3.below x4
  have C4 := C3.below x4
  have D4 := Box.alloc w4 c f1 g1 f2 g2 24
  have r1 := r1.below x4
  have r2 := r2.below x4
  have hL := hL.below x4
  have s1 := s1.below (ballo w4 (.cells #[.int .i64 c.kind, .int .i64 c.k, .int .i64 c.o, .int .i64 c.n, .slice f1 c.nx.length g1, .slice f2 c.out.length g2] 24))
  have s2 := s2.below (ballo w4 (.cells #[.int .i64 c.kind, .int .i64 c.k, .int .i64 c.o, .int .i64 c.n, .slice f1 c.nx.length g1, .slice f2 c.out.length g2] 24))
  obtain ⟨y0, y1, y2, y3, y4, y5⟩ := id B4
  clear q0 q1 q2 q3 q4 q5 hb4 b3 B3 C3 x4 i1 i2
  unfold mval
  go_wp2_with fail
  refine (rturn_any m a1 c1 a2 c2 a0 c0 wd _ (h0.nx.rd.below b4) (h0.out.rd.below b4) mn mo (g0.rd.below b4) ml).mono ?_
  rw [unhide HC]
  rintro e w5 ⟨h1, k1, h2, k2, rfl, j1, j2, -, hb5⟩
  dsimp only at j1 j2 ⊢
  obtain ⟨_, _, E1, -, -, -, t1, -⟩ := j1.shape
  cases E1
  obtain ⟨_, _, E2, -, -, -, t2, -⟩ := j2.shape
  cases E2
  have x5 := bstep hb5 (ballo w5 (.cells #[.int .i64 c.kind, .int .i64 c.k, .int .i64 c.o, .int .i64 c.n, .slice h1 c.nx.length k1, .slice h2 c.out.length k2] 24))
  have b5 := bstep b4 x5
  have B5 := B4.below x5
  have C5 := C4.below x5
  have r1 := r1.below x5
  have r2 := r2.below x5
  have hL := hL.below x5
  have s1 := s1.below x5
  have s2 := s2.below x5
  have t1 := t1.below (ballo w5 (.cells #[.int .i64 c.kind, .int .i64 c.k, .int .i64 c.o, .int .i64 c.n, .slice h1 c.nx.length k1, .slice h2 c.out.length k2] 24))
  have t2 := t2.below (ballo w5 (.cells #[.int .i64 c.kind, .int .i64 c.k, .int .i64 c.o, .int .i64 c.n, .slice h1 c.nx.length k1, .slice h2 c.out.length k2] 24))
  obtain ⟨z0, z1, z2, z3, z4, z5⟩ := Box.alloc w5 c h1 k1 h2 k2 24
  obtain ⟨q0, q1, q2, q3, q4, q5⟩ := D4.below x5
  clear y0 y1 y2 y3 y4 y5 hb5 b4 B4 C4 D4 x5 j1 j2
  unfold mval
  go_wp2_with fail
  refine (msame_any c f1 g1 f2 g2 h1 k1 h2 k2 _ s1 s2 t1 t2 cn co).mono ?_
  rintro e w6 ⟨rfl, hb6⟩
  have b6 := bstep b5 hb6
  have B6 := B5.below hb6
  have C6 := C5.below hb6
  have r1 := r1.below hb6
  have r2 := r2.below hb6
  have hL := hL.below hb6
  obtain ⟨y0, y1, y2, y3, y4, y5⟩ := id B6
  obtain ⟨x0, x1, x2, x3, x4, x5⟩ := id C6
  clear z0 z1 z2 z3 z4 z5 q0 q1 q2 q3 q4 q5 hb6 b5 B5 C5 s1 s2 t1 t2
  go_wp2_with (go_at_call 16; refine (num_any _ _).mono ?_; rintro e w' ⟨rfl, rfl⟩)
  refine (msame_any m d1 e1 d2 e2 a1 c1 a2 c2 _ r1 r2 (h0.nx.rd.below b6) (h0.out.rd.below b6) mn mo).mono ?_
  rintro e w7 ⟨rfl, hb7⟩
  have b7 := bstep b6 hb7
  have hL := hL.below hb7
  clear y0 y1 y2 y3 y4 y5 x0 x1 x2 x3 x4 x5 hb7 b6 B6 C6 r1 r2
  go_wp2_with fail
  refine (kept_list gl cl c0 wd a0 w7 hL (g0.rd.below b7)).mono ?_
  rintro e w8 ⟨rfl, hb8⟩
  have b8 := bstep b7 hb8
  go_wp2_with (go_at_call 10; refine (live_any _).mono ?_; rintro e wl ⟨rfl, hbl⟩)
  go_ret
  exact ⟨rfl, bstep b8 hbl⟩

end Go.Proofs.Ytdlcbjbcehpooaa
