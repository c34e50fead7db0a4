/-
  The law MooreRounds, walked: it returns true, whatever the table, the length and the two numbers.
-/
import Derived.Test.YtoiogggibfmncaaK12
import Derived.Deep.CutRange
namespace Go.Proofs.Ytoiogggibfmncaa
open Go.RowKit

theorem afV_nat {m : Mc} (F : Full m) {n : Int} (n0 : 0 ≤ n) : afV m n = (aftL m n.toNat, 0) := afV_ok (mch_full F) n0
/-- Alike up to one symbol more, and alike: alike. -/
theorem rounds_less {m : Mc} {s t : Nat} (hs : (s : Int) < m.n) (ht : (t : Int) < m.n) (n : Nat) (h : (aftL m (n + 1)).getD s 0 = (aftL m (n + 1)).getD t 0) : (aftL m n).getD s 0 = (aftL m n).getD t 0 := by
  have h1 := (aft_iff (m := m) (n + 1) (s := (s : Int)) (t := (t : Int)) (by omega) hs (by omega) ht).1 h
  exact (aft_iff (m := m) n (s := (s : Int)) (t := (t : Int)) (by omega) hs (by omega) ht).2 (alk_less h1)
theorem rounds_all {m : Mc} (R : Right m) {s t : Nat} (hs : (s : Int) < m.n) (ht : (t : Int) < m.n) (n : Nat) (h : (aftL m (rdV m)).getD s 0 = (aftL m (rdV m)).getD t 0) : (aftL m n).getD s 0 = (aftL m n).getD t 0 := by
  have h1 := (aft_iff (m := m) (rdV m) (s := (s : Int)) (t := (t : Int)) (by omega) hs (by omega) ht).1 h
  exact (aft_iff (m := m) n (s := (s : Int)) (t := (t : Int)) (by omega) hs (by omega) ht).2 (alk_all R (by omega) hs (by omega) ht h1 n)
theorem rounds_ne {m : Mc} (n0 : 1 ≤ m.n) {k : Nat} (hk : rdV m = k + 1) : aftL m k ≠ aftL m (rdV m) := fun e => by
  rw [hk] at e
  exact (rdV_spec n0).2.1 k (by omega) ((aft_still k).1 e.symm)

set_option maxRecDepth 100000 in
set_option maxHeartbeats 8000000 in
theorem mooreRounds_walk (m : Mc) (a1 : Option Addr) (c1 : Nat) (a2 : Option Addr) (c2 : Nat) (n s t : Int) (w : World) (h0 : ArgM w m a1 c1 a2 c2) (hn : (Lit.int .u8 n).wf = true) (_hs : Fits s) (_ht : Fits t) :
    Calls Try.prog 8 #[mval m a1 c1 a2 c2, .int .u8 n, .int .i64 s, .int .i64 t] w fun e w' => e = .returned (.bool true) ∧ Below w.heap.size w w' := by
  unfold mval
  have n0 : 0 ≤ n ∧ n ≤ 255 := by
    have a : IntKind.u8.min = 0 := rfl
    have b : IntKind.u8.max = 255 := rfl
    simp only [Lit.wf, a, b, Bool.and_eq_true, decide_eq_true_eq] at hn
    exact hn
  obtain ⟨n0, n255⟩ := n0
  have B0 := Box.alloc w m a1 c1 a2 c2 24
  have b0 := ballo w (.cells #[.int .i64 m.kind, .int .i64 m.k, .int .i64 m.o, .int .i64 m.n, .slice a1 m.nx.length c1, .slice a2 m.out.length c2] 24)
  cases hbig : bigB 60 m
  rotate_left
  · go_enter Try.func8, Try.ntmps8
    go_wp2_with fail
    refine (big_any 60 m a1 c1 a2 c2 _).mono ?_
    rw [hbig]
    rintro e w1 ⟨rfl, hb1⟩
    have b1 := bstep b0 hb1
    go_wp2_with (go_at_call 10; refine (live_any _).mono ?_; rintro e wl ⟨rfl, hbl⟩)
    go_ret
    exact ⟨rfl, bstep b1 hbl⟩
  obtain ⟨n60, ln, lo⟩ := big_bounds hbig
  have mn : m.nx.length ≤ maxLen := by unfold maxLen; omega
  have mo : m.out.length ≤ maxLen := by unfold maxLen; omega
  go_enter Try.func8, Try.ntmps8
  go_wp2_with fail
  refine (big_any 60 m a1 c1 a2 c2 _).mono ?_
  rw [hbig]
  rintro e w1 ⟨rfl, hb1⟩
  have b1 := bstep b0 hb1
  have B1 := B0.below hb1
  obtain ⟨p0, p1, p2, p3, p4, p5⟩ := id B1
  clear hb1
  clear B0 b0 hbig
  go_wp2_with fail
  refine (right_any m a1 c1 a2 c2 w1 (h0.nx.rd.below b1) (h0.out.rd.below b1) mn mo).mono ?_
  rintro e w2 ⟨rfl, hb2⟩
  have b2 := bstep b1 hb2
  have B2 := B1.below hb2
  clear p0 p1 p2 p3 p4 p5 hb2 B1 b1
  obtain ⟨p0, p1, p2, p3, p4, p5⟩ := id B2
  by_cases hz : (mchV m).2 = 0
  rotate_left
  · have tz : ((mchV m).2 == 0) = false := eq_f hz
    rw [tz]
    clear hz tz
    go_wp2_with (go_at_call 10; refine (live_any _).mono ?_; rintro e wl ⟨rfl, hbl⟩)
    go_ret
    exact ⟨rfl, bstep b2 hbl⟩
  have tz : ((mchV m).2 == 0) = true := eq_t hz
  rw [tz]
  have HF := hide (full_of hz)
  have HZ := hide hz
  clear hz tz
  by_cases s0 : s < 0
  · go_wp2_with (go_at_call 10; refine (live_any _).mono ?_; rintro e wl ⟨rfl, hbl⟩)
    go_ret
    exact ⟨rfl, bstep b2 hbl⟩
  by_cases s1 : m.n ≤ s
  · go_wp2_with (go_at_call 10; refine (live_any _).mono ?_; rintro e wl ⟨rfl, hbl⟩)
    go_ret
    exact ⟨rfl, bstep b2 hbl⟩
  by_cases t0 : t < 0
  · go_wp2_with (go_at_call 10; refine (live_any _).mono ?_; rintro e wl ⟨rfl, hbl⟩)
    go_ret
    exact ⟨rfl, bstep b2 hbl⟩
  by_cases t1 : m.n ≤ t
  · go_wp2_with (go_at_call 10; refine (live_any _).mono ?_; rintro e wl ⟨rfl, hbl⟩)
    go_ret
    exact ⟨rfl, bstep b2 hbl⟩
  have F := unhide HF
  have m0 := F.r.n0
  have m1 := F.r.n1
  obtain ⟨S, rfl⟩ := Int.eq_ofNat_of_zero_le (show 0 ≤ s by omega)
  obtain ⟨T, rfl⟩ := Int.eq_ofNat_of_zero_le (show 0 ≤ t by omega)
  obtain ⟨K, hK⟩ : ∃ K, K = rdV m := ⟨_, rfl⟩
  have hKs := (rdV_spec m0).2.2
  rw [← hK] at hKs
  have hlA : ∀ i, (aftL m i).length = m.n.toNat := aft_len m
  obtain ⟨N, hN⟩ := Int.eq_ofNat_of_zero_le (show 0 ≤ m.n by omega)
  have hNt : m.n.toNat = N := by omega
  rw [hNt] at hlA hKs
  have HLA := hide hlA
  have hSN : S < N := by omega
  have hTN : T < N := by omega
  have hSN' : (S : Int) < (N : Int) := by omega
  have hTN' : (T : Int) < (N : Int) := by omega
  have hN1 : N ≤ 1024 := by omega
  have HSm : Hid ((S : Int) < m.n) := by show _ < _; omega
  have HTm : Hid ((T : Int) < m.n) := by show _ < _; omega
  have tsN : ¬ (S : Int) < 0 := by omega
  have ttN : ¬ (T : Int) < 0 := by omega
  have tNn : ((N : Int) != m.n) = false := by rw [hN]; simp
  have HK := hide hK
  have HNN := hide hN
  have HA := hide (rounds_less (unhide HSm) (unhide HTm) n.toNat)
  have HB := hide (rounds_all F.r (unhide HSm) (unhide HTm) (n.toNat + 1))
  have hnn : n = ((n.toNat : Nat) : Int) := by omega
  have e1 : afV m n = (aftL m n.toNat, 0) := afV_nat F n0
  have e2 : afV m (n + 1) = (aftL m (n.toNat + 1), 0) := by rw [afV_nat F (by omega), show (n + 1).toNat = n.toNat + 1 by omega]
  have e3 : csV m = (aftL m (rdV m), ((rdV m : Nat) : Int), 0) := csV_ok (unhide HZ)
  have e4 : afV m (K : Int) = (aftL m (rdV m), 0) := by rw [afV_nat F (by omega), hK, Int.toNat_natCast]
  rw [← hK] at e3 e4 HB
  have E1 := hide e1
  have E2 := hide e2
  have E3 := hide e3
  have E4 := hide e4
  clear F hK hN hNt hlA e1 e2 e3 e4 hnn s0 t0
  go_wp2_with fail
  refine (after_any m a1 c1 a2 c2 n w2 (h0.nx.rd.below b2) (h0.out.rd.below b2) h0.out.le mn mo (by omega)).mono ?_
  rintro e w3 ⟨va, rfl, Ia, hb3⟩
  rw [unhide E1] at Ia ⊢
  dsimp only at Ia ⊢
  obtain ⟨aa, ca, ea, -, -, -, ra, -⟩ := Ia.shape
  rw [unhide HLA] at ea
  subst ea
  have b3 := bstep b2 hb3
  have B3 := B2.below hb3
  clear p0 p1 p2 p3 p4 p5 hb3 B2 b2 Ia
  obtain ⟨p0, p1, p2, p3, p4, p5⟩ := id B3
  go_wp2_with fail
  refine (after_any m a1 c1 a2 c2 (n + 1) w3 (h0.nx.rd.below b3) (h0.out.rd.below b3) h0.out.le mn mo (by omega)).mono ?_
  rintro e w4 ⟨vb, rfl, Ib, hb4⟩
  rw [unhide E2] at Ib ⊢
  dsimp only at Ib ⊢
  obtain ⟨ab, cb, eb, -, -, -, rb, -⟩ := Ib.shape
  rw [unhide HLA] at eb
  subst eb
  have b4 := bstep b3 hb4
  have B4 := B3.below hb4
  have ra := ra.below hb4
  clear p0 p1 p2 p3 p4 p5 hb4 B3 b3 Ib
  obtain ⟨p0, p1, p2, p3, p4, p5⟩ := id B4
  go_wp2_with fail
  refine (classes_any m a1 c1 a2 c2 w4 (h0.nx.rd.below b4) (h0.out.rd.below b4) h0.out.le mn mo).mono ?_
  rintro e w5 ⟨vc, rfl, Ic, hb5⟩
  rw [unhide E3] at Ic ⊢
  dsimp only at Ic ⊢
  obtain ⟨ac, cc, ec, -, -, -, rc', -⟩ := Ic.shape
  rw [unhide HLA] at ec
  subst ec
  have b5 := bstep b4 hb5
  have B5 := B4.below hb5
  have ra := ra.below hb5
  have rb := rb.below hb5
  have HRC := hide rc'
  clear p0 p1 p2 p3 p4 p5 hb5 B4 b4 Ic
  obtain ⟨p0, p1, p2, p3, p4, p5⟩ := id B5
  obtain ⟨bA, oA, rfl, hA⟩ := ra.at (i := S) (by rw [unhide HLA]; exact hSN)
  have hAs := hA S (by rw [unhide HLA]; exact hSN)
  have hAt := hA T (by rw [unhide HLA]; exact hTN)
  obtain ⟨bB, oB, rfl, hB⟩ := rb.at (i := S) (by rw [unhide HLA]; exact hSN)
  have hBs := hB S (by rw [unhide HLA]; exact hSN)
  have hBt := hB T (by rw [unhide HLA]; exact hTN)
  obtain ⟨bC, oC, rfl, hC⟩ := rc'.at (i := S) (by rw [unhide HLA]; exact hSN)
  have hCs := hC S (by rw [unhide HLA]; exact hSN)
  have hCt := hC T (by rw [unhide HLA]; exact hTN)
  clear hA hB hC ra rb rc'
  generalize (aftL m n.toNat).getD S 0 = A1 at *
  generalize (aftL m n.toNat).getD T 0 = A2 at *
  generalize (aftL m (n.toNat + 1)).getD S 0 = B1 at *
  generalize (aftL m (n.toNat + 1)).getD T 0 = B2 at *
  generalize (aftL m K).getD S 0 = C1 at *
  generalize (aftL m K).getD T 0 = C2 at *
  have tk0 : decide ((K : Int) < 0) = false := decide_eq_false (by omega)
  have tk1 : decide ((K : Int) ≥ m.n) = false := decide_eq_false (by have := unhide HNN; omega)
  have tk2 : decide ((K : Int) > m.n) = false := decide_eq_false (by have := unhide HNN; omega)
  go_wp2_with fail
  dsimp only [List.append]
  go_cut [142] from 69 to 141 (fun v wx => v = .bool false ∧ ∃ q, wx = w5.drewN q)
  case first =>
    rcases Classical.em (B1 = B2) with hB | hB
    case' inl =>
      have hA := unhide HA hB
      have tB : (B1 == B2) = true := eq_t hB
      have tB2 : (B1 != B2) = false := by simp [hB]
      have tA : (A1 != A2) = false := by simp [hA]
      clear HA HB hA hB
      by_cases hC : C1 = C2
      case' pos =>
        have tC : (C1 == C2) = true := eq_t hC
        clear hC
        go_quiet ((go_at_call 15; exact Calls.quiet_of_same (num_any _ _)))
      case' neg =>
        have tC : (C1 == C2) = false := eq_f hC
        clear hC
        go_quiet ((go_at_call 15; exact Calls.quiet_of_same (num_any _ _)))
    case' inr =>
      have tB : (B1 == B2) = false := eq_f hB
      have tC : (C1 == C2) = false := eq_f (fun h => hB (unhide HB h))
      clear HA HB hB
      go_quiet ((go_at_call 15; exact Calls.quiet_of_same (num_any _ _)))
    all_goals
      go_wp2_with fail
      go_meet
      exact ⟨rfl, nq, rfl⟩
  case rest =>
    obtain ⟨rfl, nq, rfl⟩ := hcut
    clear HA HB
    have x6 : Below w5.heap.size w5 (w5.drewN nq) := below_drewN (Below.refl _ _) nq
    have b6 := bstep b5 x6
    have B6 := B5.below x6
    have rc6 := (unhide HRC).below x6
    clear HRC p0 p1 p2 p3 p4 p5 x6 B5 b5 hAs hAt hBs hBt hCs hCt
    obtain ⟨p0, p1, p2, p3, p4, p5⟩ := id B6
    go_wp2_with fail
    refine (after_any m a1 c1 a2 c2 (K : Int) _ (h0.nx.rd.below b6) (h0.out.rd.below b6) h0.out.le mn mo (by omega)).mono ?_
    rintro e w7 ⟨vd, rfl, Ia, hb7⟩
    rw [unhide E4] at Ia ⊢
    dsimp only at Ia ⊢
    obtain ⟨ad, cd, ed, -, -, -, rd7, -⟩ := Ia.shape
    rw [unhide HLA] at ed
    subst ed
    have b7 := bstep b6 hb7
    have B7 := B6.below hb7
    have rc7 := rc6.below hb7
    clear p0 p1 p2 p3 p4 p5 hb7 B6 b6 Ia rc6
    obtain ⟨p0, p1, p2, p3, p4, p5⟩ := id B7
    go_wp2_with (go_at_call 15; refine (num_any _ _).mono ?_; rintro e w' ⟨rfl, rfl⟩)
    have SL := same_list (some ⟨bC, oC, none⟩) ad cc cd (aftL m K) (aftL m K) _ rc7 rd7 (by rw [unhide HLA]; unfold maxLen; omega)
    rw [unhide HLA, show decide (aftL m K = aftL m K) = true from decide_eq_true rfl] at SL
    refine SL.mono ?_
    clear SL
    rintro e w8 ⟨rfl, hb8⟩
    have b8 := bstep b7 hb8
    have B8 := B7.below hb8
    have rc8 := rc7.below hb8
    clear p0 p1 p2 p3 p4 p5 hb8 B7 b7 rc7 rd7
    obtain ⟨p0, p1, p2, p3, p4, p5⟩ := id B8
    by_cases hK0 : K = 0
    · have tK : ¬ (0 : Int) < (K : Int) := by omega
      clear hK0
      go_wp2_with (go_at_call 10; refine (live_any _).mono ?_; rintro e wl ⟨rfl, hbl⟩)
      go_ret
      exact ⟨rfl, bstep b8 hbl⟩
    have hKp : (0 : Int) < (K : Int) := by omega
    have E5 : Hid (afV m ((K : Int) - 1) = (aftL m (K - 1), 0)) := by show _ = _; rw [afV_nat (unhide HF) (by omega), show ((K : Int) - 1).toNat = K - 1 by omega]
    have E6 : Hid (decide (aftL m (K - 1) = aftL m K) = false) := by
      refine decide_eq_false ?_
      have h9 := rounds_ne (m := m) m0 (k := K - 1) (by rw [← unhide HK]; omega)
      rw [← unhide HK] at h9
      exact h9
    go_wp2_with fail
    refine (after_any m a1 c1 a2 c2 ((K : Int) - 1) _ (h0.nx.rd.below b8) (h0.out.rd.below b8) h0.out.le mn mo (by omega)).mono ?_
    rintro e w9 ⟨ve, rfl, Ia, hb9⟩
    rw [unhide E5] at Ia ⊢
    dsimp only at Ia ⊢
    obtain ⟨ax, cx, ex, -, -, -, rx, -⟩ := Ia.shape
    rw [unhide HLA] at ex
    subst ex
    have b9 := bstep b8 hb9
    have B9 := B8.below hb9
    have rc9 := rc8.below hb9
    have lenX := hide (show (aftL m (K - 1)).length ≤ maxLen by rw [unhide HLA]; unfold maxLen; omega)
    clear p0 p1 p2 p3 p4 p5 hb9 B8 b8 rc8 Ia
    go_wp2_with (go_at_call 15; refine (num_any _ _).mono ?_; rintro e w' ⟨rfl, rfl⟩)
    have SL := same_list ax (some ⟨bC, oC, none⟩) cx cc (aftL m (K - 1)) (aftL m K) _ rx rc9 (unhide lenX)
    rw [unhide HLA, unhide HLA, unhide E6] at SL
    refine SL.mono ?_
    clear SL
    rintro e w10 ⟨rfl, hb10⟩
    have b10 := bstep b9 hb10
    go_wp2_with (go_at_call 10; refine (live_any _).mono ?_; rintro e wl ⟨rfl, hbl⟩)
    go_ret
    exact ⟨rfl, bstep b10 hbl⟩

end Go.Proofs.Ytoiogggibfmncaa
