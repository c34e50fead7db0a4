/-
  The law MachineJoins, walked: it returns true, whatever the table and the two lists.
-/
import Derived.Test.YteiembcgmakhgaaYChecks
import Derived.Test.YteiembcgmakhgaaJMath
import Derived.Test.YteiembcgmakhgaaJoinL
namespace Go.Proofs.Yteiembcgmakhgaa
open Go.RowKit

set_option maxRecDepth 100000 in
set_option maxHeartbeats 2000000 in
theorem joins_err (m : Mc) (a1 : Option Addr) (c1 : Nat) (a2 : Option Addr) (c2 : Nat) (a3 : Option Addr) (c3 : Nat) (v : List Int) (a4 : Option Addr) (c4 : Nat) (u : List Int) (w : World) (h0 : ArgM w m a1 c1 a2 c2) (g3 : ArgL .i64 8 w a3 c3 v) (g4 : ArgL .i64 8 w a4 c4 u) (hbig : bigB m = false) (lv : v.length ≤ 2000) (lu : u.length ≤ 2000) (q : Int) (F : List Int) (HA : Hid (fromV m 0 v = (q, F, 0))) (y yc : Int) (O C : List Int) (eb : Int) (HB : Hid (fromV m q u = (y, O, eb))) (HC : Hid (fromV m 0 (v ++ u) = (yc, C, eb))) (he : eb ≠ 0) :
    Calls Try.prog 6 #[mval m a1 c1 a2 c2, .slice a3 v.length c3, .slice a4 u.length c4] w fun e w' => e = .returned (.bool true) ∧ Below w.heap.size w w' := by
  have te := ne_bne he
  have se := same_ne eb
  clear he
  unfold mval
  have B0 := Box.alloc w m a1 c1 a2 c2 24
  have b0 := ballo w (.cells #[.int .i64 m.kind, .int .i64 m.k, .int .i64 m.o, .int .i64 m.n, .slice a1 m.nx.length c1, .slice a2 m.out.length c2] 24)
  obtain ⟨_, ln, lo⟩ := big_bounds hbig
  have mn : m.nx.length ≤ maxLen := by unfold maxLen; omega
  have mo : m.out.length ≤ maxLen := by unfold maxLen; omega
  have mv : v.length ≤ maxLen := by unfold maxLen; omega
  have mu : u.length ≤ maxLen := by unfold maxLen; omega
  obtain ⟨J, hJ⟩ : ∃ J, J = v ++ u := ⟨_, rfl⟩
  have mj : J.length ≤ maxLen := by rw [hJ]; unfold maxLen; simp; omega
  rw [← hJ] at HC
  have HJ := hide hJ
  clear hJ
  go_enter Try.func6, Try.ntmps6
  go_wp2_with fail
  refine (big_any m a1 c1 a2 c2 _).mono ?_
  rw [hbig]
  rintro e w1 ⟨rfl, hb1⟩
  have b1 := bstep b0 hb1
  have B1 := B0.below hb1
  obtain ⟨p0, p1, p2, p3, p4, p5⟩ := id B1
  clear hb1
  clear B0 b0 hbig
  go_wp2_with fail
  refine (state_any m a1 c1 a2 c2 a3 c3 v w1 (h0.nx.rd.below b1) (h0.out.rd.below b1) (g3.rd.below b1) mn mo mv).mono ?_
  rw [unhide HA]
  rintro e w2 ⟨rfl, hb2⟩
  have b2 := bstep b1 hb2
  have B2 := B1.below hb2
  clear p0 p1 p2 p3 p4 p5 B1 b1 hb2
  obtain ⟨p0, p1, p2, p3, p4, p5⟩ := id B2
  go_wp2_with (go_at_call 14; refine (num_any _ _).mono ?_; rintro e w' ⟨rfl, rfl⟩)
  refine (from_any m a1 c1 a2 c2 q a4 c4 u _ (h0.nx.rd.below b2) (h0.out.rd.below b2) (g4.rd.below b2) mn mo mu).mono ?_
  rw [unhide HB]
  rintro e w3 ⟨v3, rfl, I3, hb3⟩
  obtain ⟨ao, co, rfl, no, hlo, hmo, So, -⟩ := I3.shape
  have b3 := bstep b2 hb3
  have B3 := B2.below hb3
  clear p0 p1 p2 p3 p4 p5 B2 b2 hb3 I3
  obtain ⟨p0, p1, p2, p3, p4, p5⟩ := id B3
  have b3' := bstep b3 (bdrew1 w3)
  have B3' := B3.below (bdrew1 w3)
  have So := So.below (bdrew1 w3)
  go_wp2
  go_region_with (first | (go_at_call 23; refine (join_list a3 c3 v a4 c4 u _ (g3.rd.below b3') g3.nil (g4.rd.below b3') g4.nil (by omega)).mono ?_; rw [← unhide HJ]; rintro e w4 ⟨v4, rfl, I4, hb4⟩; obtain ⟨aj, cj, rfl, -, -, -, Sj, -⟩ := I4.shape; have b4 := bstep b3' hb4; have B4 := B3'.below hb4; obtain ⟨x0, x1, x2, x3, x4, x5⟩ := id B4; clear I4) | (go_at_call 17; refine (state_any m a1 c1 a2 c2 aj cj J _ (h0.nx.rd.below b4) (h0.out.rd.below b4) Sj mn mo mj).mono ?_; rw [unhide HC]; rintro e w5 ⟨rfl, hb5⟩))
  all_goals
    have b5 := bstep b4 hb5
    have B5 := B4.below hb5
    have So := (So.below hb4).below hb5
    clear x0 x1 x2 x3 x4 x5 p0 p1 p2 p3 p4 p5 B3 B3' b3 b3' B4 b4 hb4 hb5 Sj
    obtain ⟨p0, p1, p2, p3, p4, p5⟩ := id B5
    have b5' := bstep b5 (bdrew1 w5)
    have B5' := B5.below (bdrew1 w5)
    have So := So.below (bdrew1 w5)
    go_wp2
    go_region_with (first | (go_at_call 23; refine (join_list a3 c3 v a4 c4 u _ (g3.rd.below b5') g3.nil (g4.rd.below b5') g4.nil (by omega)).mono ?_; rw [← unhide HJ]; rintro e w6 ⟨v6, rfl, I6, hb6⟩; obtain ⟨ak, ck, rfl, -, -, -, Sk, -⟩ := I6.shape; have b6 := bstep b5' hb6; have B6 := B5'.below hb6; obtain ⟨x0, x1, x2, x3, x4, x5⟩ := id B6; clear I6) | (go_at_call 18; refine (run_any m a1 c1 a2 c2 ak ck J _ (h0.nx.rd.below b6) (h0.out.rd.below b6) Sk mn mo mj).mono ?_; rw [unhide HC]; rintro e w7 ⟨v7, rfl, I7, hb7⟩; obtain ⟨ac, cc, rfl, -, hlc, hmc, Sc, -⟩ := I7.shape))
    all_goals
      have b7 := bstep b6 hb7
      have B7 := B6.below hb7
      have So := (So.below hb6).below hb7
      clear x0 x1 x2 x3 x4 x5 p0 p1 p2 p3 p4 p5 B5 B5' b5 b5' B6 b6 hb6 hb7 Sk I7
      obtain ⟨p0, p1, p2, p3, p4, p5⟩ := id B7
      go_wp2_with fail
      refine (run_any m a1 c1 a2 c2 a3 c3 v w7 (h0.nx.rd.below b7) (h0.out.rd.below b7) (g3.rd.below b7) mn mo mv).mono ?_
      rw [unhide HA]
      rintro e w8 ⟨v8, rfl, I8, hb8⟩
      obtain ⟨af, cf, rfl, nf, hlf, hmf, Sf, -⟩ := I8.shape
      have b8 := bstep b7 hb8
      have B8 := B7.below hb8
      have So := So.below hb8
      have Sc := Sc.below hb8
      clear p0 p1 p2 p3 p4 p5 B7 b7 hb8 I8
      obtain ⟨p0, p1, p2, p3, p4, p5⟩ := id B8
      go_wp2_with (first | (go_at_call 14; refine (num_any _ _).mono ?_; rintro e w' ⟨rfl, rfl⟩) | (go_at_call 10; refine (live_any _).mono ?_; rintro e wl ⟨rfl, hbl⟩))
      go_ret
      exact ⟨rfl, bstep b8 hbl⟩

set_option maxRecDepth 100000 in
set_option maxHeartbeats 2000000 in
theorem joins_2 (m : Mc) (a1 : Option Addr) (c1 : Nat) (a2 : Option Addr) (c2 : Nat) (a3 : Option Addr) (c3 : Nat) (v : List Int) (a4 : Option Addr) (c4 : Nat) (u : List Int) (w : World) (h0 : ArgM w m a1 c1 a2 c2) (g3 : ArgL .i64 8 w a3 c3 v) (g4 : ArgL .i64 8 w a4 c4 u) (hbig : bigB m = false) (lv : v.length ≤ 2000) (lu : u.length ≤ 2000) (q : Int) (F : List Int) (HA : Hid (fromV m 0 v = (q, F, 0))) (y : Int) (O C : List Int) (HB : Hid (fromV m q u = (y, O, 0))) (HC : Hid (fromV m 0 (v ++ u) = (y, C, 0))) (hk : m.kind = 2) (HFO : Hid (C = F ++ O)) (hlen : C.length = v.length + u.length) (lf : F.length ≤ 5000) (lq : O.length ≤ 5000) :
    Calls Try.prog 6 #[mval m a1 c1 a2 c2, .slice a3 v.length c3, .slice a4 u.length c4] w fun e w' => e = .returned (.bool true) ∧ Below w.heap.size w w' := by
  have t2 := eq_t hk
  have sy := self_eq y
  have tl : ((C.length : Int) == (v.length : Int) + (u.length : Int)) = true := by rw [hlen]; simp
  clear hk hlen
  unfold mval
  have B0 := Box.alloc w m a1 c1 a2 c2 24
  have b0 := ballo w (.cells #[.int .i64 m.kind, .int .i64 m.k, .int .i64 m.o, .int .i64 m.n, .slice a1 m.nx.length c1, .slice a2 m.out.length c2] 24)
  obtain ⟨_, ln, lo⟩ := big_bounds hbig
  have mn : m.nx.length ≤ maxLen := by unfold maxLen; omega
  have mo : m.out.length ≤ maxLen := by unfold maxLen; omega
  have mv : v.length ≤ maxLen := by unfold maxLen; omega
  have mu : u.length ≤ maxLen := by unfold maxLen; omega
  obtain ⟨J, hJ⟩ : ∃ J, J = v ++ u := ⟨_, rfl⟩
  have mj : J.length ≤ maxLen := by rw [hJ]; unfold maxLen; simp; omega
  rw [← hJ] at HC
  have HJ := hide hJ
  clear hJ
  go_enter Try.func6, Try.ntmps6
  go_wp2_with fail
  refine (big_any m a1 c1 a2 c2 _).mono ?_
  rw [hbig]
  rintro e w1 ⟨rfl, hb1⟩
  have b1 := bstep b0 hb1
  have B1 := B0.below hb1
  obtain ⟨p0, p1, p2, p3, p4, p5⟩ := id B1
  clear hb1
  clear B0 b0 hbig
  go_wp2_with fail
  refine (state_any m a1 c1 a2 c2 a3 c3 v w1 (h0.nx.rd.below b1) (h0.out.rd.below b1) (g3.rd.below b1) mn mo mv).mono ?_
  rw [unhide HA]
  rintro e w2 ⟨rfl, hb2⟩
  have b2 := bstep b1 hb2
  have B2 := B1.below hb2
  clear p0 p1 p2 p3 p4 p5 B1 b1 hb2
  obtain ⟨p0, p1, p2, p3, p4, p5⟩ := id B2
  go_wp2_with (go_at_call 14; refine (num_any _ _).mono ?_; rintro e w' ⟨rfl, rfl⟩)
  refine (from_any m a1 c1 a2 c2 q a4 c4 u _ (h0.nx.rd.below b2) (h0.out.rd.below b2) (g4.rd.below b2) mn mo mu).mono ?_
  rw [unhide HB]
  rintro e w3 ⟨v3, rfl, I3, hb3⟩
  obtain ⟨ao, co, rfl, no, hlo, hmo, So, -⟩ := I3.shape
  have b3 := bstep b2 hb3
  have B3 := B2.below hb3
  clear p0 p1 p2 p3 p4 p5 B2 b2 hb3 I3
  obtain ⟨p0, p1, p2, p3, p4, p5⟩ := id B3
  have b3' := bstep b3 (bdrew1 w3)
  have B3' := B3.below (bdrew1 w3)
  have So := So.below (bdrew1 w3)
  go_wp2
  go_region_with (first | (go_at_call 23; refine (join_list a3 c3 v a4 c4 u _ (g3.rd.below b3') g3.nil (g4.rd.below b3') g4.nil (by omega)).mono ?_; rw [← unhide HJ]; rintro e w4 ⟨v4, rfl, I4, hb4⟩; obtain ⟨aj, cj, rfl, -, -, -, Sj, -⟩ := I4.shape; have b4 := bstep b3' hb4; have B4 := B3'.below hb4; obtain ⟨x0, x1, x2, x3, x4, x5⟩ := id B4; clear I4) | (go_at_call 17; refine (state_any m a1 c1 a2 c2 aj cj J _ (h0.nx.rd.below b4) (h0.out.rd.below b4) Sj mn mo mj).mono ?_; rw [unhide HC]; rintro e w5 ⟨rfl, hb5⟩))
  all_goals
    have b5 := bstep b4 hb5
    have B5 := B4.below hb5
    have So := (So.below hb4).below hb5
    clear x0 x1 x2 x3 x4 x5 p0 p1 p2 p3 p4 p5 B3 B3' b3 b3' B4 b4 hb4 hb5 Sj
    obtain ⟨p0, p1, p2, p3, p4, p5⟩ := id B5
    have b5' := bstep b5 (bdrew1 w5)
    have B5' := B5.below (bdrew1 w5)
    have So := So.below (bdrew1 w5)
    go_wp2
    go_region_with (first | (go_at_call 23; refine (join_list a3 c3 v a4 c4 u _ (g3.rd.below b5') g3.nil (g4.rd.below b5') g4.nil (by omega)).mono ?_; rw [← unhide HJ]; rintro e w6 ⟨v6, rfl, I6, hb6⟩; obtain ⟨ak, ck, rfl, -, -, -, Sk, -⟩ := I6.shape; have b6 := bstep b5' hb6; have B6 := B5'.below hb6; obtain ⟨x0, x1, x2, x3, x4, x5⟩ := id B6; clear I6) | (go_at_call 18; refine (run_any m a1 c1 a2 c2 ak ck J _ (h0.nx.rd.below b6) (h0.out.rd.below b6) Sk mn mo mj).mono ?_; rw [unhide HC]; rintro e w7 ⟨v7, rfl, I7, hb7⟩; obtain ⟨ac, cc, rfl, -, hlc, hmc, Sc, -⟩ := I7.shape))
    all_goals
      have b7 := bstep b6 hb7
      have B7 := B6.below hb7
      have So := (So.below hb6).below hb7
      clear x0 x1 x2 x3 x4 x5 p0 p1 p2 p3 p4 p5 B5 B5' b5 b5' B6 b6 hb6 hb7 Sk I7
      obtain ⟨p0, p1, p2, p3, p4, p5⟩ := id B7
      go_wp2_with fail
      refine (run_any m a1 c1 a2 c2 a3 c3 v w7 (h0.nx.rd.below b7) (h0.out.rd.below b7) (g3.rd.below b7) mn mo mv).mono ?_
      rw [unhide HA]
      rintro e w8 ⟨v8, rfl, I8, hb8⟩
      obtain ⟨af, cf, rfl, nf, hlf, hmf, Sf, -⟩ := I8.shape
      have b8 := bstep b7 hb8
      have B8 := B7.below hb8
      have So := So.below hb8
      have Sc := Sc.below hb8
      clear p0 p1 p2 p3 p4 p5 B7 b7 hb8 I8
      obtain ⟨p0, p1, p2, p3, p4, p5⟩ := id B8
      go_wp2_with (go_at_call 14; refine (num_any _ _).mono ?_; rintro e w' ⟨rfl, rfl⟩)
      refine (join_list af cf F ao co O _ Sf nf So no (by omega)).mono ?_
      rw [← unhide HFO]
      rintro e w9 ⟨v9, rfl, I9, hb9⟩
      obtain ⟨ag, cg, rfl, -, -, -, Sg, -⟩ := I9.shape
      have b9 := bstep b8 hb9
      have Sc := Sc.below hb9
      clear p0 p1 p2 p3 p4 p5 B8 b8 hb9 I9 So Sf
      go_wp2_with fail
      refine (same_list ac ag cc cg C C w9 Sc Sg (Nat.le_trans hlc hmc)).mono ?_
      rw [show decide (C = C) = true from decide_eq_true rfl]
      rintro e wA ⟨rfl, hbA⟩
      have bA := bstep b9 hbA
      clear hbA b9 Sc Sg
      go_wp2_with (go_at_call 10; refine (live_any _).mono ?_; rintro e wl ⟨rfl, hbl⟩)
      go_ret
      exact ⟨rfl, bstep bA hbl⟩

set_option maxRecDepth 100000 in
set_option maxHeartbeats 2000000 in
theorem joins_1 (m : Mc) (a1 : Option Addr) (c1 : Nat) (a2 : Option Addr) (c2 : Nat) (a3 : Option Addr) (c3 : Nat) (v : List Int) (a4 : Option Addr) (c4 : Nat) (u : List Int) (w : World) (h0 : ArgM w m a1 c1 a2 c2) (g3 : ArgL .i64 8 w a3 c3 v) (g4 : ArgL .i64 8 w a4 c4 u) (hbig : bigB m = false) (lv : v.length ≤ 2000) (lu : u.length ≤ 2000) (q : Int) (F : List Int) (HA : Hid (fromV m 0 v = (q, F, 0))) (y : Int) (C : List Int) (HB : Hid (fromV m q u = (y, C, 0))) (HC : Hid (fromV m 0 (v ++ u) = (y, C, 0))) (hk : m.kind ≠ 2) (hlen : C.length = 1) :
    Calls Try.prog 6 #[mval m a1 c1 a2 c2, .slice a3 v.length c3, .slice a4 u.length c4] w fun e w' => e = .returned (.bool true) ∧ Below w.heap.size w w' := by
  have t2 := eq_f hk
  have sy := self_eq y
  have tl : ((C.length : Int) == 1) = true := by rw [hlen]; rfl
  clear hk hlen
  unfold mval
  have B0 := Box.alloc w m a1 c1 a2 c2 24
  have b0 := ballo w (.cells #[.int .i64 m.kind, .int .i64 m.k, .int .i64 m.o, .int .i64 m.n, .slice a1 m.nx.length c1, .slice a2 m.out.length c2] 24)
  obtain ⟨_, ln, lo⟩ := big_bounds hbig
  have mn : m.nx.length ≤ maxLen := by unfold maxLen; omega
  have mo : m.out.length ≤ maxLen := by unfold maxLen; omega
  have mv : v.length ≤ maxLen := by unfold maxLen; omega
  have mu : u.length ≤ maxLen := by unfold maxLen; omega
  obtain ⟨J, hJ⟩ : ∃ J, J = v ++ u := ⟨_, rfl⟩
  have mj : J.length ≤ maxLen := by rw [hJ]; unfold maxLen; simp; omega
  rw [← hJ] at HC
  have HJ := hide hJ
  clear hJ
  go_enter Try.func6, Try.ntmps6
  go_wp2_with fail
  refine (big_any m a1 c1 a2 c2 _).mono ?_
  rw [hbig]
  rintro e w1 ⟨rfl, hb1⟩
  have b1 := bstep b0 hb1
  have B1 := B0.below hb1
  obtain ⟨p0, p1, p2, p3, p4, p5⟩ := id B1
  clear hb1
  clear B0 b0 hbig
  go_wp2_with fail
  refine (state_any m a1 c1 a2 c2 a3 c3 v w1 (h0.nx.rd.below b1) (h0.out.rd.below b1) (g3.rd.below b1) mn mo mv).mono ?_
  rw [unhide HA]
  rintro e w2 ⟨rfl, hb2⟩
  have b2 := bstep b1 hb2
  have B2 := B1.below hb2
  clear p0 p1 p2 p3 p4 p5 B1 b1 hb2
  obtain ⟨p0, p1, p2, p3, p4, p5⟩ := id B2
  go_wp2_with (go_at_call 14; refine (num_any _ _).mono ?_; rintro e w' ⟨rfl, rfl⟩)
  refine (from_any m a1 c1 a2 c2 q a4 c4 u _ (h0.nx.rd.below b2) (h0.out.rd.below b2) (g4.rd.below b2) mn mo mu).mono ?_
  rw [unhide HB]
  rintro e w3 ⟨v3, rfl, I3, hb3⟩
  obtain ⟨ao, co, rfl, no, hlo, hmo, So, -⟩ := I3.shape
  have b3 := bstep b2 hb3
  have B3 := B2.below hb3
  clear p0 p1 p2 p3 p4 p5 B2 b2 hb3 I3
  obtain ⟨p0, p1, p2, p3, p4, p5⟩ := id B3
  have b3' := bstep b3 (bdrew1 w3)
  have B3' := B3.below (bdrew1 w3)
  have So := So.below (bdrew1 w3)
  go_wp2
  go_region_with (first | (go_at_call 23; refine (join_list a3 c3 v a4 c4 u _ (g3.rd.below b3') g3.nil (g4.rd.below b3') g4.nil (by omega)).mono ?_; rw [← unhide HJ]; rintro e w4 ⟨v4, rfl, I4, hb4⟩; obtain ⟨aj, cj, rfl, -, -, -, Sj, -⟩ := I4.shape; have b4 := bstep b3' hb4; have B4 := B3'.below hb4; obtain ⟨x0, x1, x2, x3, x4, x5⟩ := id B4; clear I4) | (go_at_call 17; refine (state_any m a1 c1 a2 c2 aj cj J _ (h0.nx.rd.below b4) (h0.out.rd.below b4) Sj mn mo mj).mono ?_; rw [unhide HC]; rintro e w5 ⟨rfl, hb5⟩))
  all_goals
    have b5 := bstep b4 hb5
    have B5 := B4.below hb5
    have So := (So.below hb4).below hb5
    clear x0 x1 x2 x3 x4 x5 p0 p1 p2 p3 p4 p5 B3 B3' b3 b3' B4 b4 hb4 hb5 Sj
    obtain ⟨p0, p1, p2, p3, p4, p5⟩ := id B5
    have b5' := bstep b5 (bdrew1 w5)
    have B5' := B5.below (bdrew1 w5)
    have So := So.below (bdrew1 w5)
    go_wp2
    go_region_with (first | (go_at_call 23; refine (join_list a3 c3 v a4 c4 u _ (g3.rd.below b5') g3.nil (g4.rd.below b5') g4.nil (by omega)).mono ?_; rw [← unhide HJ]; rintro e w6 ⟨v6, rfl, I6, hb6⟩; obtain ⟨ak, ck, rfl, -, -, -, Sk, -⟩ := I6.shape; have b6 := bstep b5' hb6; have B6 := B5'.below hb6; obtain ⟨x0, x1, x2, x3, x4, x5⟩ := id B6; clear I6) | (go_at_call 18; refine (run_any m a1 c1 a2 c2 ak ck J _ (h0.nx.rd.below b6) (h0.out.rd.below b6) Sk mn mo mj).mono ?_; rw [unhide HC]; rintro e w7 ⟨v7, rfl, I7, hb7⟩; obtain ⟨ac, cc, rfl, -, hlc, hmc, Sc, -⟩ := I7.shape))
    all_goals
      have b7 := bstep b6 hb7
      have B7 := B6.below hb7
      have So := (So.below hb6).below hb7
      clear x0 x1 x2 x3 x4 x5 p0 p1 p2 p3 p4 p5 B5 B5' b5 b5' B6 b6 hb6 hb7 Sk I7
      obtain ⟨p0, p1, p2, p3, p4, p5⟩ := id B7
      go_wp2_with fail
      refine (run_any m a1 c1 a2 c2 a3 c3 v w7 (h0.nx.rd.below b7) (h0.out.rd.below b7) (g3.rd.below b7) mn mo mv).mono ?_
      rw [unhide HA]
      rintro e w8 ⟨v8, rfl, I8, hb8⟩
      obtain ⟨af, cf, rfl, nf, hlf, hmf, Sf, -⟩ := I8.shape
      have b8 := bstep b7 hb8
      have B8 := B7.below hb8
      have So := So.below hb8
      have Sc := Sc.below hb8
      clear p0 p1 p2 p3 p4 p5 B7 b7 hb8 I8
      obtain ⟨p0, p1, p2, p3, p4, p5⟩ := id B8
      go_wp2_with (go_at_call 14; refine (num_any _ _).mono ?_; rintro e w' ⟨rfl, rfl⟩)
      refine (same_list ac ao cc co C C _ Sc So (Nat.le_trans hlc hmc)).mono ?_
      rw [show decide (C = C) = true from decide_eq_true rfl]
      rintro e wA ⟨rfl, hbA⟩
      have bA := bstep b8 hbA
      clear hbA b8 Sc So
      go_wp2_with (go_at_call 10; refine (live_any _).mono ?_; rintro e wl ⟨rfl, hbl⟩)
      go_ret
      exact ⟨rfl, bstep bA hbl⟩

set_option maxRecDepth 100000 in
set_option maxHeartbeats 2000000 in
theorem machineJoins_walk (m : Mc) (a1 : Option Addr) (c1 : Nat) (a2 : Option Addr) (c2 : Nat) (a3 : Option Addr) (c3 : Nat) (v : List Int) (a4 : Option Addr) (c4 : Nat) (u : List Int) (w : World) (h0 : ArgM w m a1 c1 a2 c2) (g3 : ArgL .i64 8 w a3 c3 v) (g4 : ArgL .i64 8 w a4 c4 u) :
    Calls Try.prog 6 #[mval m a1 c1 a2 c2, .slice a3 v.length c3, .slice a4 u.length c4] w fun e w' => e = .returned (.bool true) ∧ Below w.heap.size w w' := by
  have B0 := Box.alloc w m a1 c1 a2 c2 24
  have b0 := ballo w (.cells #[.int .i64 m.kind, .int .i64 m.k, .int .i64 m.o, .int .i64 m.n, .slice a1 m.nx.length c1, .slice a2 m.out.length c2] 24)
  cases hbig : bigB m
  rotate_left
  · unfold mval
    go_enter Try.func6, Try.ntmps6
    go_wp2_with fail
    refine (big_any m a1 c1 a2 c2 _).mono ?_
    rw [hbig]
    rintro e w1 ⟨rfl, hb1⟩
    have b1 := bstep b0 hb1
    go_wp2_with (go_at_call 10; refine (live_any _).mono ?_; rintro e wl ⟨rfl, hbl⟩)
    go_ret
    exact ⟨rfl, bstep b1 hbl⟩
  by_cases hv : 2000 < v.length
  · unfold mval
    go_enter Try.func6, Try.ntmps6
    go_wp2_with fail
    refine (big_any m a1 c1 a2 c2 _).mono ?_
    rw [hbig]
    rintro e w1 ⟨rfl, hb1⟩
    have b1 := bstep b0 hb1
    have B1 := B0.below hb1
    obtain ⟨p0, p1, p2, p3, p4, p5⟩ := id B1
    clear hb1
    go_wp2_with (go_at_call 10; refine (live_any _).mono ?_; rintro e wl ⟨rfl, hbl⟩)
    go_ret
    exact ⟨rfl, bstep b1 hbl⟩
  by_cases hu : 2000 < u.length
  · unfold mval
    go_enter Try.func6, Try.ntmps6
    go_wp2_with fail
    refine (big_any m a1 c1 a2 c2 _).mono ?_
    rw [hbig]
    rintro e w1 ⟨rfl, hb1⟩
    have b1 := bstep b0 hb1
    have B1 := B0.below hb1
    obtain ⟨p0, p1, p2, p3, p4, p5⟩ := id B1
    clear hb1
    go_wp2_with (go_at_call 10; refine (live_any _).mono ?_; rintro e wl ⟨rfl, hbl⟩)
    go_ret
    exact ⟨rfl, bstep b1 hbl⟩
  by_cases hA : (fromV m 0 v).2.2 = 0
  rotate_left
  · have H1 := hide (fromV_err hA)
    have te := ne_bne hA
    obtain ⟨_, ln, lo⟩ := big_bounds hbig
    have mn : m.nx.length ≤ maxLen := by unfold maxLen; omega
    have mo : m.out.length ≤ maxLen := by unfold maxLen; omega
    have mv : v.length ≤ maxLen := by unfold maxLen; omega
    clear hA
    unfold mval
    go_enter Try.func6, Try.ntmps6
    go_wp2_with fail
    refine (big_any m a1 c1 a2 c2 _).mono ?_
    rw [hbig]
    rintro e w1 ⟨rfl, hb1⟩
    have b1 := bstep b0 hb1
    have B1 := B0.below hb1
    obtain ⟨p0, p1, p2, p3, p4, p5⟩ := id B1
    clear hb1
    go_wp2_with fail
    refine (state_any m a1 c1 a2 c2 a3 c3 v w1 (h0.nx.rd.below b1) (h0.out.rd.below b1) (g3.rd.below b1) mn mo mv).mono ?_
    rw [unhide H1]
    rintro e w2 ⟨rfl, hb2⟩
    have b2 := bstep b1 hb2
    go_wp2_with (first | (go_at_call 14; refine (num_any _ _).mono ?_; rintro e w' ⟨rfl, rfl⟩) | (go_at_call 10; refine (live_any _).mono ?_; rintro e wl ⟨rfl, hbl⟩))
    go_ret
    exact ⟨rfl, bstep b2 hbl⟩
  have lv : v.length ≤ 2000 := by omega
  have lu : u.length ≤ 2000 := by omega
  have LF := fromV_most m 0 v
  rcases e1 : fromV m 0 v with ⟨q, F, e⟩
  rw [e1] at hA LF
  obtain rfl : e = 0 := hA
  have J := join_facts (w := u) (by omega) e1
  have LO := fromV_most m q u
  rcases e2 : fromV m q u with ⟨y, O, eb⟩
  rcases e3 : fromV m 0 (v ++ u) with ⟨yc, C, ec⟩
  rw [e2] at LO
  rw [e2, e3] at J
  obtain ⟨J1, J2⟩ := J
  obtain rfl : eb = ec := J1
  by_cases he : eb = 0
  rotate_left
  · exact joins_err m a1 c1 a2 c2 a3 c3 v a4 c4 u w h0 g3 g4 hbig lv lu q F (hide e1) y yc O C eb (hide e2) (hide e3) he
  obtain rfl : eb = 0 := he
  obtain ⟨J3, J4, J5⟩ := J2 rfl
  obtain rfl : y = yc := J3
  by_cases hk : m.kind = 2
  · exact joins_2 m a1 c1 a2 c2 a3 c3 v a4 c4 u w h0 g3 g4 hbig lv lu q F (hide e1) y O C (hide e2) (hide e3) hk (hide (J4 hk).1) (J4 hk).2 (Nat.le_trans LF (by omega)) (Nat.le_trans LO (by omega))
  · obtain rfl : C = O := (J5 hk).1
    exact joins_1 m a1 c1 a2 c2 a3 c3 v a4 c4 u w h0 g3 g4 hbig lv lu q F (hide e1) y C (hide e2) (hide e3) hk (J5 hk).2

end Go.Proofs.Yteiembcgmakhgaa
