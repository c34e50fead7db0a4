/-
  The law MachineSteps, walked: it returns true, whatever the table, the state and the symbol.
-/
import Derived.Test.YteiembcgmakhgaaYChecks
namespace Go.Proofs.Yteiembcgmakhgaa
open Go.RowKit

theorem wch_one {x k : Int} (k0 : 1 ≤ k) (k1 : k ≤ 64) (x0 : 0 ≤ x) (x1 : x < k) : (wchV [x] k).2 = 0 := by
  unfold wchV
  rw [chkV_ok k0 k1 (by simp) (fun j hj => by
    have : j = 0 := by simp at hj; omega
    subst this
    exact bad_no x0 x1)]
theorem wch_nil {k : Int} (k0 : 1 ≤ k) (k1 : k ≤ 64) : (wchV [] k).2 = 0 := by
  unfold wchV
  rw [chkV_ok k0 k1 (by simp) (fun j hj => by simp at hj)]
theorem fromS1 {m : Mc} {s x : Int} {P : Nat} (hz : (mchV m).2 = 0) (s0 : 0 ≤ s) (s1 : s < m.n) (x0 : 0 ≤ x) (x1 : x < m.k) (hP : s * m.k + x = (P : Int)) (hk : m.kind = 1) : fromV m s [x] = (m.nx.getD P 0, [m.out.getD (m.nx.getD P 0).toNat 0], 0) := by
  have R := right_of hz
  rw [fromV_ok hz s0 s1 (wch_one R.k0 R.k1 x0 x1), goV_cons1 (by omega) hP, goV_nil1 hk]
theorem fromS2 {m : Mc} {s x : Int} {P : Nat} (hz : (mchV m).2 = 0) (s0 : 0 ≤ s) (s1 : s < m.n) (x0 : 0 ≤ x) (x1 : x < m.k) (hP : s * m.k + x = (P : Int)) (hk : m.kind = 2) : fromV m s [x] = (m.nx.getD P 0, [m.out.getD P 0], 0) := by
  have R := right_of hz
  rw [fromV_ok hz s0 s1 (wch_one R.k0 R.k1 x0 x1), goV_cons2 hk hP, goV_nil2 (by omega)]
  rfl
theorem fromN1 {m : Mc} {s : Int} (hz : (mchV m).2 = 0) (s0 : 0 ≤ s) (s1 : s < m.n) (hk : m.kind = 1) : fromV m s [] = (s, [m.out.getD s.toNat 0], 0) := by
  have R := right_of hz
  rw [fromV_ok hz s0 s1 (wch_nil R.k0 R.k1), goV_nil1 hk]
theorem fromN2 {m : Mc} {s : Int} (hz : (mchV m).2 = 0) (s0 : 0 ≤ s) (s1 : s < m.n) (hk : m.kind = 2) : fromV m s [] = (s, [], 0) := by
  have R := right_of hz
  rw [fromV_ok hz s0 s1 (wch_nil R.k0 R.k1), goV_nil2 (by omega)]
theorem self_ne (x : Int) : (x != x) = false := by simp

set_option maxRecDepth 100000 in
set_option maxHeartbeats 1000000 in
theorem steps_1 (m : Mc) (a1 : Option Addr) (c1 : Nat) (a2 : Option Addr) (c2 : Nat) (s x : Int) (w : World) (h0 : ArgM w m a1 c1 a2 c2) (hbig : bigB m = false) (hz : (mchV m).2 = 0) (s0 : 0 ≤ s) (s1 : s < m.n) (x0 : 0 ≤ x) (x1 : x < m.k) (hk : m.kind = 1) :
    Calls Try.prog 7 #[mval m a1 c1 a2 c2, .int .i64 s, .int .i64 x] w fun e w' => e = .returned (.bool true) ∧ Below w.heap.size w w' := by
  have R := right_of hz
  obtain ⟨P, hP, hPl, g0, g1, g2⟩ := way_of R s0 s1 x0 x1
  have hPl' : (P : Int) < (m.nx.length : Int) := by omega
  obtain ⟨b, off, rfl, -⟩ := h0.nx.rd.at hPl
  have hy := R.st P hPl
  have HF1 := hide (fromS1 hz s0 s1 x0 x1 hP hk)
  have HF2 := hide (fromN1 hz s0 s1 hk)
  obtain ⟨y, hye⟩ : ∃ y, y = m.nx.getD P 0 := ⟨_, rfl⟩
  rw [← hye] at HF1 hy
  obtain ⟨S, rfl⟩ := Int.eq_ofNat_of_zero_le s0
  obtain ⟨Y, rfl⟩ := Int.eq_ofNat_of_zero_le hy.1
  rw [Int.toNat_natCast] at HF1 HF2
  have hS : S < m.out.length := by have := R.outD hk; omega
  have hY : Y < m.out.length := by have := R.outD hk; omega
  have hS' : (S : Int) < (m.out.length : Int) := by omega
  have hY' : (Y : Int) < (m.out.length : Int) := by omega
  obtain ⟨bo, oo, rfl, -⟩ := h0.out.rd.at hS
  obtain ⟨z, hze⟩ : ∃ z, z = m.out.getD S 0 := ⟨_, rfl⟩
  obtain ⟨u, hue⟩ : ∃ u, u = m.out.getD Y 0 := ⟨_, rfl⟩
  rw [← hze] at HF2
  rw [← hue] at HF1
  have HZ := hide hze
  have HU := hide hue
  have HY := hide hye
  have t2 := eq_f (a := m.kind) (b := 2) (by omega)
  have sy := self_ne (Y : Int)
  have ss := self_ne (S : Int)
  clear hze hue hye hk R
  have TZ := hide (eq_t hz)
  clear hz
  unfold mval
  have B0 := Box.alloc w m (some ⟨b, off, none⟩) c1 (some ⟨bo, oo, none⟩) c2 24
  have b0 := ballo w (.cells #[.int .i64 m.kind, .int .i64 m.k, .int .i64 m.o, .int .i64 m.n, .slice (some ⟨b, off, none⟩) m.nx.length c1, .slice (some ⟨bo, oo, none⟩) m.out.length c2] 24)
  obtain ⟨_, ln, lo⟩ := big_bounds hbig
  have mn : m.nx.length ≤ maxLen := by unfold maxLen; omega
  have mo : m.out.length ≤ maxLen := by unfold maxLen; omega
  go_enter Try.func7, Try.ntmps7
  go_wp2_with fail
  refine (big_any m (some ⟨b, off, none⟩) c1 (some ⟨bo, oo, none⟩) c2 _).mono ?_
  rw [hbig]
  rintro e w1 ⟨rfl, hb1⟩
  have b1 := bstep b0 hb1
  have B1 := B0.below hb1
  obtain ⟨p0, p1, p2, p3, p4, p5⟩ := id B1
  clear hb1
  clear B0 b0 hbig
  go_wp2_with fail
  refine (right_any m (some ⟨b, off, none⟩) c1 (some ⟨bo, oo, none⟩) c2 w1 (h0.nx.rd.below b1) (h0.out.rd.below b1) mn mo).mono ?_
  rw [unhide TZ]
  rintro e w2 ⟨rfl, hb2⟩
  have b2 := bstep b1 hb2
  have B2 := B1.below hb2
  clear p0 p1 p2 p3 p4 p5 B1 b1 hb2
  obtain ⟨p0, p1, p2, p3, p4, p5⟩ := id B2
  have b3 := balloc b2 (.cells #[.int .i64 x] 3)
  have B3 := B2.below (ballo w2 (.cells #[.int .i64 x] 3))
  go_wp2_with fail
  refine (from_any m (some ⟨b, off, none⟩) c1 (some ⟨bo, oo, none⟩) c2 (S : Int) (some ⟨w2.heap.size, 0, none⟩) 1 [x] (w2.alloc (.cells #[.int .i64 x] 3)) (h0.nx.rd.below b3) (h0.out.rd.below b3) (RdL.one w2 x) mn mo (by unfold maxLen; simp)).mono ?_
  rw [unhide HF1]
  rintro e w3 ⟨v3, rfl, I3, hb3⟩
  obtain ⟨av, cv, rfl, -, -, -, S3, -⟩ := I3.shape
  have b4 := bstep b3 hb3
  have B4 := B3.below hb3
  clear p0 p1 p2 p3 p4 p5 I3 hb3 B3 b3 B2 b2
  obtain ⟨p0, p1, p2, p3, p4, p5⟩ := id B4
  go_wp2_with fail
  refine (from_any m (some ⟨b, off, none⟩) c1 (some ⟨bo, oo, none⟩) c2 (S : Int) none 0 [] w3 (h0.nx.rd.below b4) (h0.out.rd.below b4) (RdL.nil _ _ _) mn mo (by unfold maxLen; simp)).mono ?_
  rw [unhide HF2]
  rintro e w4 ⟨v4, rfl, I4, hb4⟩
  obtain ⟨au, cu, rfl, -, -, -, S4, -⟩ := I4.shape
  have S3 := S3.below hb4
  have b5 := bstep b4 hb4
  have B5 := B4.below hb4
  clear p0 p1 p2 p3 p4 p5 I4 hb4 B4 b4
  obtain ⟨p0, p1, p2, p3, p4, p5⟩ := id B5
  have hnP := h0.nx.rd.cellIn b5 rfl hPl (unhide HY)
  have hoS := h0.out.rd.cellIn b5 rfl hS (unhide HZ)
  go_wp2_with (go_at_call 14; refine (num_any _ _).mono ?_; rintro e w' ⟨rfl, rfl⟩)
  refine (same_list au (some ⟨_, 0, none⟩) cu 1 [z] [z] _ (S4.below (ballo _ (.cells #[.int .i64 z] 3))) (RdL.one _ z) (by unfold maxLen; simp)).mono ?_
  rw [show decide ([z] = [z]) = true from decide_eq_true rfl]
  rintro e w5 ⟨rfl, hb5⟩
  have b6 := bstep (balloc b5 (.cells #[.int .i64 z] 3)) hb5
  have B6 := (B5.below (ballo _ (.cells #[.int .i64 z] 3))).below hb5
  have S5 := ((S3.below (ballo _ (.cells #[.int .i64 z] 3))).below hb5).below (ballo w5 (.cells #[.int .i64 u] 3))
  clear p0 p1 p2 p3 p4 p5 hnP hoS hb5 B5
  obtain ⟨p0, p1, p2, p3, p4, p5⟩ := id B6
  have hoY := h0.out.rd.cellIn b6 rfl hY (unhide HU)
  go_wp2_with fail
  refine (same_list av (some ⟨w5.heap.size, 0, none⟩) cv 1 [u] [u] (w5.alloc (.cells #[.int .i64 u] 3)) S5 (RdL.one _ u) (by unfold maxLen; simp)).mono ?_
  rw [show decide ([u] = [u]) = true from decide_eq_true rfl]
  rintro e w6 ⟨rfl, hb6⟩
  have b7 := bstep (balloc b6 _) hb6
  go_wp2_with (go_at_call 10; refine (live_any _).mono ?_; rintro e wl ⟨rfl, hbl⟩)
  go_ret
  exact ⟨rfl, bstep b7 hbl⟩

set_option maxRecDepth 100000 in
set_option maxHeartbeats 1000000 in
theorem steps_2 (m : Mc) (a1 : Option Addr) (c1 : Nat) (a2 : Option Addr) (c2 : Nat) (s x : Int) (w : World) (h0 : ArgM w m a1 c1 a2 c2) (hbig : bigB m = false) (hz : (mchV m).2 = 0) (s0 : 0 ≤ s) (s1 : s < m.n) (x0 : 0 ≤ x) (x1 : x < m.k) (hk : m.kind = 2) :
    Calls Try.prog 7 #[mval m a1 c1 a2 c2, .int .i64 s, .int .i64 x] w fun e w' => e = .returned (.bool true) ∧ Below w.heap.size w w' := by
  have R := right_of hz
  obtain ⟨P, hP, hPl, g0, g1, g2⟩ := way_of R s0 s1 x0 x1
  have hPl' : (P : Int) < (m.nx.length : Int) := by omega
  obtain ⟨b, off, rfl, -⟩ := h0.nx.rd.at hPl
  have hy := R.st P hPl
  have HF1 := hide (fromS2 hz s0 s1 x0 x1 hP hk)
  have HF2 := hide (fromN2 hz s0 s1 hk)
  have hPo : P < m.out.length := by have := R.nx; have := R.outM hk; omega
  have hPo' : (P : Int) < (m.out.length : Int) := by omega
  obtain ⟨bo, oo, rfl, -⟩ := h0.out.rd.at hPo
  obtain ⟨y, hye⟩ : ∃ y, y = m.nx.getD P 0 := ⟨_, rfl⟩
  obtain ⟨z, hze⟩ : ∃ z, z = m.out.getD P 0 := ⟨_, rfl⟩
  rw [← hye, ← hze] at HF1
  rw [← hye] at hy
  have HZ := hide hze
  have HY := hide hye
  have t2 := eq_t hk
  have sy := self_ne y
  have ss := self_ne s
  clear hze hye hk R
  have TZ := hide (eq_t hz)
  clear hz
  unfold mval
  have B0 := Box.alloc w m (some ⟨b, off, none⟩) c1 (some ⟨bo, oo, none⟩) c2 24
  have b0 := ballo w (.cells #[.int .i64 m.kind, .int .i64 m.k, .int .i64 m.o, .int .i64 m.n, .slice (some ⟨b, off, none⟩) m.nx.length c1, .slice (some ⟨bo, oo, none⟩) m.out.length c2] 24)
  obtain ⟨_, ln, lo⟩ := big_bounds hbig
  have mn : m.nx.length ≤ maxLen := by unfold maxLen; omega
  have mo : m.out.length ≤ maxLen := by unfold maxLen; omega
  go_enter Try.func7, Try.ntmps7
  go_wp2_with fail
  refine (big_any m (some ⟨b, off, none⟩) c1 (some ⟨bo, oo, none⟩) c2 _).mono ?_
  rw [hbig]
  rintro e w1 ⟨rfl, hb1⟩
  have b1 := bstep b0 hb1
  have B1 := B0.below hb1
  obtain ⟨p0, p1, p2, p3, p4, p5⟩ := id B1
  clear hb1
  clear B0 b0 hbig
  go_wp2_with fail
  refine (right_any m (some ⟨b, off, none⟩) c1 (some ⟨bo, oo, none⟩) c2 w1 (h0.nx.rd.below b1) (h0.out.rd.below b1) mn mo).mono ?_
  rw [unhide TZ]
  rintro e w2 ⟨rfl, hb2⟩
  have b2 := bstep b1 hb2
  have B2 := B1.below hb2
  clear p0 p1 p2 p3 p4 p5 B1 b1 hb2
  obtain ⟨p0, p1, p2, p3, p4, p5⟩ := id B2
  have b3 := balloc b2 (.cells #[.int .i64 x] 3)
  have B3 := B2.below (ballo w2 (.cells #[.int .i64 x] 3))
  go_wp2_with fail
  refine (from_any m (some ⟨b, off, none⟩) c1 (some ⟨bo, oo, none⟩) c2 s (some ⟨w2.heap.size, 0, none⟩) 1 [x] (w2.alloc (.cells #[.int .i64 x] 3)) (h0.nx.rd.below b3) (h0.out.rd.below b3) (RdL.one w2 x) mn mo (by unfold maxLen; simp)).mono ?_
  rw [unhide HF1]
  rintro e w3 ⟨v3, rfl, I3, hb3⟩
  obtain ⟨av, cv, rfl, -, -, -, S3, -⟩ := I3.shape
  have b4 := bstep b3 hb3
  have B4 := B3.below hb3
  clear p0 p1 p2 p3 p4 p5 I3 hb3 B3 b3 B2 b2
  obtain ⟨p0, p1, p2, p3, p4, p5⟩ := id B4
  go_wp2_with fail
  refine (from_any m (some ⟨b, off, none⟩) c1 (some ⟨bo, oo, none⟩) c2 s none 0 [] w3 (h0.nx.rd.below b4) (h0.out.rd.below b4) (RdL.nil _ _ _) mn mo (by unfold maxLen; simp)).mono ?_
  rw [unhide HF2]
  rintro e w4 ⟨v4, rfl, I4, hb4⟩
  obtain ⟨au, cu, rfl, -, -, -, S4, -⟩ := I4.shape
  have S3 := S3.below hb4
  have b5 := bstep b4 hb4
  have B5 := B4.below hb4
  clear p0 p1 p2 p3 p4 p5 I4 hb4 B4 b4
  obtain ⟨p0, p1, p2, p3, p4, p5⟩ := id B5
  have hnP := h0.nx.rd.cellIn b5 rfl hPl (unhide HY)
  have hoP := h0.out.rd.cellIn b5 rfl hPo (unhide HZ)
  go_wp2_with (go_at_call 14; refine (num_any _ _).mono ?_; rintro e w' ⟨rfl, rfl⟩)
  refine (same_list av (some ⟨_, 0, none⟩) cv 1 [z] [z] _ (S3.below (ballo _ (.cells #[.int .i64 z] 3))) (RdL.one _ z) (by unfold maxLen; simp)).mono ?_
  rw [show decide ([z] = [z]) = true from decide_eq_true rfl]
  rintro e w5 ⟨rfl, hb5⟩
  have b6 := bstep (balloc b5 _) hb5
  go_wp2_with (go_at_call 10; refine (live_any _).mono ?_; rintro e wl ⟨rfl, hbl⟩)
  go_ret
  exact ⟨rfl, bstep b6 hbl⟩

set_option maxRecDepth 100000 in
set_option maxHeartbeats 1000000 in
theorem machineSteps_walk (m : Mc) (a1 : Option Addr) (c1 : Nat) (a2 : Option Addr) (c2 : Nat) (s x : Int) (w : World) (h0 : ArgM w m a1 c1 a2 c2) (_ : Fits s) (_ : Fits x) :
    Calls Try.prog 7 #[mval m a1 c1 a2 c2, .int .i64 s, .int .i64 x] w fun e w' => e = .returned (.bool true) ∧ Below w.heap.size w w' := by
  cases hbig : bigB m
  rotate_left
  · have b0 := ballo w (.cells #[.int .i64 m.kind, .int .i64 m.k, .int .i64 m.o, .int .i64 m.n, .slice a1 m.nx.length c1, .slice a2 m.out.length c2] 24)
    unfold mval
    go_enter Try.func7, Try.ntmps7
    go_wp2_with fail
    refine (big_any m a1 c1 a2 c2 _).mono ?_
    rw [hbig]
    rintro e w1 ⟨rfl, hb1⟩
    have b1 := bstep b0 hb1
    go_wp2_with (go_at_call 10; refine (live_any _).mono ?_; rintro e wl ⟨rfl, hbl⟩)
    go_ret
    exact ⟨rfl, bstep b1 hbl⟩
  obtain ⟨_, ln, lo⟩ := big_bounds hbig
  have mn : m.nx.length ≤ maxLen := by unfold maxLen; omega
  have mo : m.out.length ≤ maxLen := by unfold maxLen; omega
  have B0 := Box.alloc w m a1 c1 a2 c2 24
  have b0 := ballo w (.cells #[.int .i64 m.kind, .int .i64 m.k, .int .i64 m.o, .int .i64 m.n, .slice a1 m.nx.length c1, .slice a2 m.out.length c2] 24)
  by_cases hz : (mchV m).2 = 0
  rotate_left
  · have TZ := hide (eq_f hz)
    clear hz
    unfold mval
    go_enter Try.func7, Try.ntmps7
    go_wp2_with fail
    refine (big_any m a1 c1 a2 c2 _).mono ?_
    rw [hbig]
    rintro e w1 ⟨rfl, hb1⟩
    have b1 := bstep b0 hb1
    have B1 := B0.below hb1
    obtain ⟨p0, p1, p2, p3, p4, p5⟩ := id B1
    clear hb1
    go_wp2_with fail
    refine (right_any m a1 c1 a2 c2 w1 (h0.nx.rd.below b1) (h0.out.rd.below b1) mn mo).mono ?_
    rw [unhide TZ]
    rintro e w2 ⟨rfl, hb2⟩
    have b2 := bstep b1 hb2
    have B2 := B1.below hb2
    clear p0 p1 p2 p3 p4 p5 B1 b1 hb2
    obtain ⟨p0, p1, p2, p3, p4, p5⟩ := id B2
    go_wp2_with (go_at_call 10; refine (live_any _).mono ?_; rintro e wl ⟨rfl, hbl⟩)
    go_ret
    exact ⟨rfl, bstep b2 hbl⟩
  by_cases hs : s < 0
  · have TZ := hide (eq_t hz)
    clear hz
    unfold mval
    go_enter Try.func7, Try.ntmps7
    go_wp2_with fail
    refine (big_any m a1 c1 a2 c2 _).mono ?_
    rw [hbig]
    rintro e w1 ⟨rfl, hb1⟩
    have b1 := bstep b0 hb1
    have B1 := B0.below hb1
    obtain ⟨p0, p1, p2, p3, p4, p5⟩ := id B1
    clear hb1
    go_wp2_with fail
    refine (right_any m a1 c1 a2 c2 w1 (h0.nx.rd.below b1) (h0.out.rd.below b1) mn mo).mono ?_
    rw [unhide TZ]
    rintro e w2 ⟨rfl, hb2⟩
    have b2 := bstep b1 hb2
    have B2 := B1.below hb2
    clear p0 p1 p2 p3 p4 p5 B1 b1 hb2
    obtain ⟨p0, p1, p2, p3, p4, p5⟩ := id B2
    go_wp2_with (go_at_call 10; refine (live_any _).mono ?_; rintro e wl ⟨rfl, hbl⟩)
    go_ret
    exact ⟨rfl, bstep b2 hbl⟩
  by_cases hs2 : m.n ≤ s
  · have TZ := hide (eq_t hz)
    clear hz
    unfold mval
    go_enter Try.func7, Try.ntmps7
    go_wp2_with fail
    refine (big_any m a1 c1 a2 c2 _).mono ?_
    rw [hbig]
    rintro e w1 ⟨rfl, hb1⟩
    have b1 := bstep b0 hb1
    have B1 := B0.below hb1
    obtain ⟨p0, p1, p2, p3, p4, p5⟩ := id B1
    clear hb1
    go_wp2_with fail
    refine (right_any m a1 c1 a2 c2 w1 (h0.nx.rd.below b1) (h0.out.rd.below b1) mn mo).mono ?_
    rw [unhide TZ]
    rintro e w2 ⟨rfl, hb2⟩
    have b2 := bstep b1 hb2
    have B2 := B1.below hb2
    clear p0 p1 p2 p3 p4 p5 B1 b1 hb2
    obtain ⟨p0, p1, p2, p3, p4, p5⟩ := id B2
    go_wp2_with (go_at_call 10; refine (live_any _).mono ?_; rintro e wl ⟨rfl, hbl⟩)
    go_ret
    exact ⟨rfl, bstep b2 hbl⟩
  by_cases hx : x < 0
  · have TZ := hide (eq_t hz)
    clear hz
    unfold mval
    go_enter Try.func7, Try.ntmps7
    go_wp2_with fail
    refine (big_any m a1 c1 a2 c2 _).mono ?_
    rw [hbig]
    rintro e w1 ⟨rfl, hb1⟩
    have b1 := bstep b0 hb1
    have B1 := B0.below hb1
    obtain ⟨p0, p1, p2, p3, p4, p5⟩ := id B1
    clear hb1
    go_wp2_with fail
    refine (right_any m a1 c1 a2 c2 w1 (h0.nx.rd.below b1) (h0.out.rd.below b1) mn mo).mono ?_
    rw [unhide TZ]
    rintro e w2 ⟨rfl, hb2⟩
    have b2 := bstep b1 hb2
    have B2 := B1.below hb2
    clear p0 p1 p2 p3 p4 p5 B1 b1 hb2
    obtain ⟨p0, p1, p2, p3, p4, p5⟩ := id B2
    go_wp2_with (go_at_call 10; refine (live_any _).mono ?_; rintro e wl ⟨rfl, hbl⟩)
    go_ret
    exact ⟨rfl, bstep b2 hbl⟩
  by_cases hx2 : m.k ≤ x
  · have TZ := hide (eq_t hz)
    clear hz
    unfold mval
    go_enter Try.func7, Try.ntmps7
    go_wp2_with fail
    refine (big_any m a1 c1 a2 c2 _).mono ?_
    rw [hbig]
    rintro e w1 ⟨rfl, hb1⟩
    have b1 := bstep b0 hb1
    have B1 := B0.below hb1
    obtain ⟨p0, p1, p2, p3, p4, p5⟩ := id B1
    clear hb1
    go_wp2_with fail
    refine (right_any m a1 c1 a2 c2 w1 (h0.nx.rd.below b1) (h0.out.rd.below b1) mn mo).mono ?_
    rw [unhide TZ]
    rintro e w2 ⟨rfl, hb2⟩
    have b2 := bstep b1 hb2
    have B2 := B1.below hb2
    clear p0 p1 p2 p3 p4 p5 B1 b1 hb2
    obtain ⟨p0, p1, p2, p3, p4, p5⟩ := id B2
    go_wp2_with (go_at_call 10; refine (live_any _).mono ?_; rintro e wl ⟨rfl, hbl⟩)
    go_ret
    exact ⟨rfl, bstep b2 hbl⟩
  rcases (right_of hz).kd with hk | hk
  · exact steps_1 m a1 c1 a2 c2 s x w h0 hbig hz (by omega) (by omega) (by omega) (by omega) hk
  · exact steps_2 m a1 c1 a2 c2 s x w h0 hbig hz (by omega) (by omega) (by omega) (by omega) hk

end Go.Proofs.Yteiembcgmakhgaa
