/-
  The law MooreSame, walked: it returns true, whatever the table and the list.
-/
import Derived.Test.YtoiogggibfmncaaK12
import Derived.Test.YtoiogggibfmncaaRReach
namespace Go.Proofs.Ytoiogggibfmncaa
open Go.RowKit

/-- 0, 1, .., n - 1. -/
def upto (n : Nat) : List Int := (List.range n).map fun i : Nat => (i : Int)
theorem upto_len (n : Nat) : (upto n).length = n := by simp [upto]
theorem upto_at {n i : Nat} (h : i < n) : (upto n).getD i 0 = (i : Int) := by simp [upto, List.getD, h]
theorem min_csV {m : Mc} (F : Full m) : ∃ r, csV (minM m) = (upto (minM m).n.toNat, r, 0) := ⟨_, by rw [csV_ok (mch_full (full_min F)), min_cls F]; rfl⟩
theorem min_mnV {m : Mc} (F : Full m) : mnV (minM m) = (minM m, 0) := by rw [mnV_ok (mch_full (full_min F)), min_min F]
theorem min_rcV {m : Mc} (F : Full m) : ((rcV (minM m)).1.length : Int) = (minM m).n := by
  rw [rcV_ok (mch_full (full_min F))]
  exact can_all (full_quo F)

set_option maxRecDepth 100000 in
set_option maxHeartbeats 2000000 in
theorem mooreSame_walk (m : Mc) (a1 : Option Addr) (c1 : Nat) (a2 : Option Addr) (c2 : Nat) (a0 : Option Addr) (c0 : Nat) (wd : List Int) (w : World) (h0 : ArgM w m a1 c1 a2 c2) (g0 : ArgL .i64 8 w a0 c0 wd) :
    Calls Try.prog 6 #[mval m a1 c1 a2 c2, .slice a0 wd.length c0] w fun e w' => e = .returned (.bool true) ∧ Below w.heap.size w w' := by
  unfold mval
  have B0 := Box.alloc w m a1 c1 a2 c2 24
  have b0 := ballo w (.cells #[.int .i64 m.kind, .int .i64 m.k, .int .i64 m.o, .int .i64 m.n, .slice a1 m.nx.length c1, .slice a2 m.out.length c2] 24)
  cases hbig : bigB 60 m
  rotate_left
  · go_enter Try.func6, Try.ntmps6
    go_wp2_with fail
    refine (big_any 60 m a1 c1 a2 c2 _).mono ?_
    rw [hbig]
    rintro e w1 ⟨rfl, hb1⟩
    have b1 := bstep b0 hb1
    go_wp2_with (go_at_call 10; refine (live_any _).mono ?_; rintro e wl ⟨rfl, hbl⟩)
    go_ret
    exact ⟨rfl, bstep b1 hbl⟩
  obtain ⟨n60, ln, lo⟩ := big_bounds hbig
  have mn : m.nx.length ≤ maxLen := by unfold maxLen; omega
  have mo : m.out.length ≤ maxLen := by unfold maxLen; omega
  by_cases hlong : 2000 < wd.length
  · go_enter Try.func6, Try.ntmps6
    go_wp2_with fail
    refine (big_any 60 m a1 c1 a2 c2 _).mono ?_
    rw [hbig]
    rintro e w1 ⟨rfl, hb1⟩
    have b1 := bstep b0 hb1
    have B1 := B0.below hb1
    obtain ⟨p0, p1, p2, p3, p4, p5⟩ := id B1
    clear hb1
    go_wp2_with (go_at_call 10; refine (live_any _).mono ?_; rintro e wl ⟨rfl, hbl⟩)
    go_ret
    exact ⟨rfl, bstep b1 hbl⟩
  have ml : wd.length ≤ maxLen := by unfold maxLen; omega
  by_cases hz : (mchV m).2 = 0
  rotate_left
  · have HV := hide (mnV_err hz)
    have tz := ne_bne hz
    clear hz
    go_enter Try.func6, Try.ntmps6
    go_wp2_with fail
    refine (big_any 60 m a1 c1 a2 c2 _).mono ?_
    rw [hbig]
    rintro e w1 ⟨rfl, hb1⟩
    have b1 := bstep b0 hb1
    have B1 := B0.below hb1
    obtain ⟨p0, p1, p2, p3, p4, p5⟩ := id B1
    clear hb1
    clear B0 b0 hbig
    go_wp2_with fail
    refine (minimise_any m a1 c1 a2 c2 w1 (h0.nx.rd.below b1) (h0.out.rd.below b1) h0.out.le mn mo).mono ?_
    rw [unhide HV]
    rintro e w2 ⟨d1, e1, d2, e2, rfl, i1, i2, -, hb2⟩
    have b2 := bstep (bstep b1 hb2) (ballo w2 (.cells #[.int .i64 mc0.kind, .int .i64 mc0.k, .int .i64 mc0.o, .int .i64 mc0.n, .slice d1 mc0.nx.length e1, .slice d2 mc0.out.length e2] 24))
    obtain ⟨q0, q1, q2, q3, q4, q5⟩ := Box.alloc w2 mc0 d1 e1 d2 e2 24
    unfold mval
    clear i1 i2 hb2
    have tn : (mc0.n == 0) = true := rfl
    go_wp2_with (first | (go_at_call 15; refine (num_any _ _).mono ?_; rintro e w' ⟨rfl, rfl⟩) | (go_at_call 10; refine (live_any _).mono ?_; rintro e wl ⟨rfl, hbl⟩))
    go_ret
    exact ⟨rfl, bstep b2 hbl⟩
  have F := full_of hz
  have HV := hide (mnV_ok hz)
  have HC := hide (fromV_min F wd)
  have HCS := hide (min_csV F)
  have HMN := hide (min_mnV F)
  have HRC := hide (min_rcV F)
  have hle : (minM m).n ≤ m.n := min_n F
  have hc0 : 1 ≤ (minM m).n := (full_min F).r.n0
  have hc1 : (minM m).n ≤ 1024 := (full_min F).r.n1
  clear hz F
  go_enter Try.func6, Try.ntmps6
  go_wp2_with fail
  refine (big_any 60 m a1 c1 a2 c2 _).mono ?_
  rw [hbig]
  rintro e w1 ⟨rfl, hb1⟩
  have b1 := bstep b0 hb1
  have B1 := B0.below hb1
  obtain ⟨p0, p1, p2, p3, p4, p5⟩ := id B1
  clear hb1
  clear B0 b0 hbig
  go_wp2_with fail
  refine (minimise_any m a1 c1 a2 c2 w1 (h0.nx.rd.below b1) (h0.out.rd.below b1) h0.out.le mn mo).mono ?_
  rw [unhide HV]
  rintro e w2 ⟨d1, e1, d2, e2, rfl, i1, i2, -, hb2⟩
  dsimp only at i1 i2 ⊢
  generalize minM m = c at *
  obtain ⟨_, _, E1, -, l1, l1', s1, -⟩ := i1.shape
  cases E1
  obtain ⟨_, _, E2, -, l2, l2', s2, -⟩ := i2.shape
  cases E2
  have cn : c.nx.length ≤ maxLen := by omega
  have co : c.out.length ≤ maxLen := by omega
  have y2 := ballo w2 (.cells #[.int .i64 c.kind, .int .i64 c.k, .int .i64 c.o, .int .i64 c.n, .slice d1 c.nx.length e1, .slice d2 c.out.length e2] 24)
  have x2 := bstep hb2 y2
  have b2 := bstep b1 x2
  have B2 := B1.below x2
  have C2 := Box.alloc w2 c d1 e1 d2 e2 24
  have s1 := s1.below y2
  have s2 := s2.below y2
  obtain ⟨q0, q1, q2, q3, q4, q5⟩ := id B2
  unfold mval
  clear i1 i2 hb2 p0 p1 p2 p3 p4 p5 B1 b1 x2 y2
  go_wp2_with (go_at_call 15; refine (num_any _ _).mono ?_; rintro e w' ⟨rfl, rfl⟩)
  refine (rrun_any m a1 c1 a2 c2 a0 c0 wd _ (h0.nx.rd.below b2) (h0.out.rd.below b2) (g0.rd.below b2) mn mo ml).mono ?_
  rintro e w3 ⟨v3, rfl, I3, hb3⟩
  obtain ⟨av, cv, ev, -, lv, lv', S3, -⟩ := I3.shape
  subst ev
  have b3 := bstep b2 hb3
  have C3 := C2.below hb3
  have B3 := B2.below hb3
  have s1 := s1.below hb3
  have s2 := s2.below hb3
  obtain ⟨t0, t1, t2, t3, t4, t5⟩ := id C3
  clear q0 q1 q2 q3 q4 q5 I3 hb3 C2 B2 b2
  go_wp2_with fail
  refine (rrun_any c d1 e1 d2 e2 a0 c0 wd w3 s1 s2 (g0.rd.below b3) cn co ml).mono ?_
  rw [unhide HC]
  rintro e w4 ⟨v4, rfl, I4, hb4⟩
  obtain ⟨au, cu, eu, -, -, -, S4, -⟩ := I4.shape
  subst eu
  have b4 := bstep b3 hb4
  have C4 := C3.below hb4
  have B4 := B3.below hb4
  have s1 := s1.below hb4
  have s2 := s2.below hb4
  have S3 := S3.below hb4
  obtain ⟨q0, q1, q2, q3, q4, q5⟩ := id C4
  clear t0 t1 t2 t3 t4 t5 I4 hb4 C3 B3 b3
  have lf : (fromV m 0 wd).2.1.length ≤ maxLen := by omega
  have te := self_ne (fromV m 0 wd).2.2
  generalize (fromV m 0 wd).2.1 = L at *
  generalize (fromV m 0 wd).2.2 = E at *
  obtain ⟨r, hcs⟩ := unhide HCS
  have HCS2 := hide hcs
  clear hcs HCS
  go_wp2_with fail
  refine (classes_any c d1 e1 d2 e2 w4 s1 s2 l2 cn co).mono ?_
  rintro e w5 ⟨v5, rfl, I5, hb5⟩
  rw [unhide HCS2] at I5 ⊢
  dsimp only at I5 ⊢
  obtain ⟨ac, cc, ec, -, -, -, S5, -⟩ := I5.shape
  rw [upto_len] at ec
  subst ec
  have b5 := bstep b4 hb5
  have C5 := C4.below hb5
  have B5 := B4.below hb5
  have s1 := s1.below hb5
  have s2 := s2.below hb5
  have S3 := S3.below hb5
  have S4 := S4.below hb5
  clear q0 q1 q2 q3 q4 q5 I5 hb5 C4 B4 b4
  obtain ⟨q0, q1, q2, q3, q4, q5⟩ := id C5
  go_wp2_with fail
  refine (minimise_any c d1 e1 d2 e2 w5 s1 s2 l2 cn co).mono ?_
  rw [unhide HMN]
  rintro e w6 ⟨f1, g1, f2, g2, rfl, i1, i2, -, hb6⟩
  dsimp only at i1 i2 ⊢
  obtain ⟨_, _, E1, -, -, -, u1, -⟩ := i1.shape
  cases E1
  obtain ⟨_, _, E2, -, -, -, u2, -⟩ := i2.shape
  cases E2
  have y6 := ballo w6 (.cells #[.int .i64 c.kind, .int .i64 c.k, .int .i64 c.o, .int .i64 c.n, .slice f1 c.nx.length g1, .slice f2 c.out.length g2] 24)
  have x6 := bstep hb6 y6
  have b6 := bstep b5 x6
  have C6 := C5.below x6
  have B6 := B5.below x6
  have s1 := s1.below x6
  have s2 := s2.below x6
  have S3 := S3.below x6
  have S4 := S4.below x6
  have S5 := S5.below x6
  have D6 := Box.alloc w6 c f1 g1 f2 g2 24
  have u1 := u1.below y6
  have u2 := u2.below y6
  unfold mval
  clear q0 q1 q2 q3 q4 q5 i1 i2 hb6 C5 B5 b5 x6 y6
  obtain ⟨q0, q1, q2, q3, q4, q5⟩ := id C6
  go_wp2_with fail
  refine (rreach_any c d1 e1 d2 e2 _ s1 s2 cn co).mono ?_
  rintro e w7 ⟨v7, vv7, vs7, rfl, I7, LL7, -, hb7⟩
  obtain ⟨ar, cr, er, -, -, -, -, -⟩ := I7.shape
  subst er
  obtain ⟨al, cl', el, -⟩ := LL7.rdx
  subst el
  have b7 := bstep b6 hb7
  have C7 := C6.below hb7
  have B7 := B6.below hb7
  have D7 := D6.below hb7
  have s1 := s1.below hb7
  have s2 := s2.below hb7
  have u1 := u1.below hb7
  have u2 := u2.below hb7
  have S3 := S3.below hb7
  have S4 := S4.below hb7
  have S5 := S5.below hb7
  have hrc : ((rcV c).1.length : Int) = c.n := unhide HRC
  have trc : (((rcV c).1.length : Int) != c.n) = false := by rw [hrc]; simp
  clear q0 q1 q2 q3 q4 q5 I7 LL7 hb7 C6 B6 D6 b6 hrc
  generalize (rcV c).1.length = rl at *
  generalize (rcV c).2.1.length = rl2 at *
  generalize (rcV c).2.2 = re at *
  go_wp2_with (go_at_call 15; refine (num_any _ _).mono ?_; rintro e w' ⟨rfl, rfl⟩)
  refine (same_list av au cv cu L L _ S3 S4 lf).mono ?_
  rw [show decide (L = L) = true from decide_eq_true rfl]
  rintro e w8 ⟨rfl, hb8⟩
  have b8 := bstep b7 hb8
  have C8 := C7.below hb8
  have B8 := B7.below hb8
  have D8 := D7.below hb8
  have s1 := s1.below hb8
  have s2 := s2.below hb8
  have u1 := u1.below hb8
  have u2 := u2.below hb8
  have S5 := S5.below hb8
  obtain ⟨q0, q1, q2, q3, q4, q5⟩ := id C8
  obtain ⟨t0, t1, t2, t3, t4, t5⟩ := id D8
  clear hb8 C7 B7 D7 b7 S3 S4
  go_wp2_with fail
  refine (msame_any c d1 e1 d2 e2 f1 g1 f2 g2 w8 s1 s2 u1 u2 cn co).mono ?_
  rintro e w9 ⟨rfl, hb9⟩
  have b9 := bstep b8 hb9
  have C9 := C8.below hb9
  have B9 := B8.below hb9
  have S5 := S5.below hb9
  clear q0 q1 q2 q3 q4 q5 t0 t1 t2 t3 t4 t5 hb9 C8 B8 D8 b8 s1 s2 u1 u2
  obtain ⟨q0, q1, q2, q3, q4, q5⟩ := id C9
  obtain ⟨t0, t1, t2, t3, t4, t5⟩ := id B9
  have tgt : decide (c.n > m.n) = false := decide_eq_false (by omega)
  obtain ⟨K, hK⟩ := Int.eq_ofNat_of_zero_le (show 0 ≤ c.n by omega)
  have hKt : c.n.toNat = K := by omega
  have HKK := hide hK
  rw [hKt] at S5 ⊢
  have hK1 : K ≤ 1024 := by omega
  have HS5 := hide S5
  clear hK hKt S5
  go_wp2
  go_loopw [19] (fun a wx => ∃ k : Nat, a = .int .i64 k ∧ k ≤ K ∧ wx = w9) (fun a _ => K - (intOf a).toNat)
  case atStart => exact ⟨0, rfl, Nat.zero_le _, rfl⟩
  case round =>
    obtain ⟨k, rfl, hk, rfl⟩ := hrel
    by_cases hlt : k < K
    · have hlt' : (k : Int) < (K : Int) := by omega
      obtain ⟨bb, off, rfl, hcl⟩ := (unhide HS5).at (i := k) (by rw [upto_len]; exact hlt)
      have hck := hcl k (by rw [upto_len]; exact hlt)
      rw [upto_at hlt] at hck
      have tk : ((k : Int) != (k : Int)) = false := by simp
      clear hcl
      go_wp2
      go_roundw
      case rel => exact ⟨k + 1, by go_num, by omega, trivial⟩
      case measure => simp [intOf]; omega
    · obtain rfl : k = K := by omega
      have hge : ¬ (k : Int) < (k : Int) := by omega
      have tk : ((k : Int) == c.n) = true := by rw [unhide HKK]; simp
      go_wp2_with (go_at_call 10; refine (live_any _).mono ?_; rintro e wl ⟨rfl, hbl⟩)
      go_ret
      exact ⟨rfl, bstep b9 hbl⟩

end Go.Proofs.Ytoiogggibfmncaa
