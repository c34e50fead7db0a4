/-
  What the reference's Minimise returns, for every table: what the program's does.
-/
import Derived.Test.YtdnmabemollbeaaDoorSApiC
import Derived.Test.YtdnmabemollbeaaDoorK21
import Derived.Test.YtdnmabemollbeaaDoorVQI
import Derived.Deep.CutRange
namespace Go.Proofs.YtdnmabemollbeaaDoor
open Go.RowKit Go.Maps

set_option maxHeartbeats 4000000 in
set_option maxRecDepth 100000 in
theorem rminimise_any (m : Mc) (a1 : Option Addr) (c1 : Nat) (a2 : Option Addr) (c2 : Nat) (w : World) (h1 : RdL .i64 w a1 m.nx) (h2 : RdL .i64 w a2 m.out) (hn : m.nx.length ≤ maxLen) (ho : m.out.length ≤ maxLen) :
    Calls Tryd.prog 27 #[mval m a1 c1 a2 c2] w fun e w' => CPost (mnV m) w e w' := by
  unfold mval
  have B0 := (Box.alloc w m a1 c1 a2 c2 24).below (ballo _ (.cells #[.int .i64 0, .int .i64 0, .int .i64 0, .int .i64 0, .slice none 0 0, .slice none 0 0] 24))
  have Z0 := Box.alloc (w.alloc (.cells #[.int .i64 m.kind, .int .i64 m.k, .int .i64 m.o, .int .i64 m.n, .slice a1 m.nx.length c1, .slice a2 m.out.length c2] 24)) mc0 none 0 none 0 24
  have b0 := bstep (ballo w (.cells #[.int .i64 m.kind, .int .i64 m.k, .int .i64 m.o, .int .i64 m.n, .slice a1 m.nx.length c1, .slice a2 m.out.length c2] 24)) (ballo _ (.cells #[.int .i64 0, .int .i64 0, .int .i64 0, .int .i64 0, .slice none 0 0, .slice none 0 0] 24))
  have F0 : ∀ i, ((w.alloc (.cells #[.int .i64 m.kind, .int .i64 m.k, .int .i64 m.o, .int .i64 m.n, .slice a1 m.nx.length c1, .slice a2 m.out.length c2] 24)).alloc (.cells #[.int .i64 0, .int .i64 0, .int .i64 0, .int .i64 0, .slice none 0 0, .slice none 0 0] 24)).frozen? ⟨w.heap.size + 1, i, none⟩ = false := fun i => by rw [frozen?_alloc_cells, frozen?_alloc_cells]; exact frz_new w (by omega)
  simp only [World.size_alloc] at Z0
  by_cases hz : (mchV m).2 = 0
  rotate_left
  · have H := hide (mnV_err hz)
    have HC := hide (csV_err hz)
    have tz := ne_bne hz
    clear hz
    go_enter Tryd.func27, Tryd.ntmps27
    go_wp2_with fail
    refine (rclasses_any m a1 c1 a2 c2 _ (h1.below b0) (h2.below b0) hn ho).mono ?_
    rintro e w1 ⟨v, rfl, -, hb1⟩
    rw [unhide HC]
    have b1 := bstep b0 hb1
    have Z1 := Z0.below hb1
    obtain ⟨z0, z1, z2, z3, z4, z5⟩ := id Z1
    have g0 := frz_on (F0 0) hb1 (by simp)
    have g1 := frz_on (F0 1) hb1 (by simp)
    have g2 := frz_on (F0 2) hb1 (by simp)
    have g3 := frz_on (F0 3) hb1 (by simp)
    have g4 := frz_on (F0 4) hb1 (by simp)
    have g5 := frz_on (F0 5) hb1 (by simp)
    clear hb1 h1 h2 B0 b0
    dsimp only
    go_wp2
    change bodyPost _ _ _ _ _ (six w1 (w.heap.size + 1) mc0 none 0 none 0)
    have b2 := six_below b1 (b := w.heap.size + 1) (by omega) mc0 none 0 none 0
    have Z2 : Box (six w1 (w.heap.size + 1) mc0 none 0 none 0) _ _ _ _ _ _ := Z1.six mc0 none 0 none 0
    generalize six w1 (w.heap.size + 1) mc0 none 0 none 0 = w6 at *
    obtain ⟨q0, q1, q2, q3, q4, q5⟩ := Z2
    refine bodyPost_ret (v := .tuple #[mval mc0 none 0 none 0, .int .i64 (mchV m).2]) ?_ rfl (by rw [unhide H]; exact zero_post _ b2)
    unfold mval
    simp [results, Tryd.results27, go_sem, q0, q1, q2, q3, q4, q5]
  have F := full_of hz
  have HF := hide F
  have H := hide (mnV_ok hz)
  have HC := hide (csV_ok hz)
  have k0 := F.r.k0
  have k1 := F.r.k1
  have n0 := F.r.n0
  have n1 := F.r.n1
  have hpp := pp_le F.r
  have HR : Hid (Right m) := F.r
  obtain ⟨N, hN⟩ := Int.eq_ofNat_of_zero_le (show 0 ≤ m.n by omega)
  have hNt : m.n.toNat = N := by omega
  have hN1 : N ≤ 1024 := by omega
  have hlC : (aftL m (rdV m)).length = N := by rw [aft_len]; exact hNt
  have HNN := hide hN
  have HNT := hide hNt
  have HLC := hide hlC
  clear F hz hN hNt hlC
  go_enter Tryd.func27, Tryd.ntmps27
  go_wp2_with fail
  refine (rclasses_any m a1 c1 a2 c2 _ (h1.below b0) (h2.below b0) hn ho).mono ?_
  rintro e w1 ⟨v, rfl, hv, hb1⟩
  rw [unhide HC] at hv ⊢
  dsimp only at hv ⊢
  obtain ⟨av, cv, ev, -, -, -, h3, -⟩ := hv.shape
  rw [unhide HLC] at ev
  subst ev
  have b1 := bstep b0 hb1
  have B1 := B0.below hb1
  have Z1 := Z0.below hb1
  have F1 := fun i => frz_on (F0 i) hb1 (by simp)
  obtain ⟨q0, q1, q2, q3, q4, q5⟩ := id B1
  have hbw : w.heap.size + 1 < w1.heap.size := World.block_lt_of_cell? w1 _ Z1.p0
  have I0 : QInv m (nc (clR m) 0) w w1 (w1.alloc (.cells #[.int .i64 m.kind, .int .i64 m.k, .int .i64 m.o, .int .i64 0, .slice none 0 0, .slice none 0 0] 24)) w1.heap.size (.slice none 0 0) (.slice none 0 0) (nxR m (clM m) (reps (clR m) 0)) (ouR m (reps (clR m) 0)) := by
    refine ⟨⟨⟨?_, ?_, ?_, ?_, ?_, ?_, ?_, ?_⟩, OwnL.nil _ _ _ _, OwnL.nil _ _ _ _, (fun j e => by cases e), bstep b1 (ballo _ _), (Below.refl _ _).alloc (by omega) _, by omega⟩, ?_⟩
    all_goals first | (rw [frozen?_alloc_cells]; exact frz_new w1 (Nat.le_refl _)) | simp [nc]
  have HI0 := hide I0
  clear hb1 B0 b0 Z0 F0 hv I0
  go_wp2
  clear q0 q1 q2 q3 q4 q5
  go_loopw [8] (fun a wx => ∃ (s : Nat) (v1 v2 : Value), a = .int .i64 s ∧ s ≤ N ∧ QInv m (nc (clR m) s) w w1 wx w1.heap.size v1 v2 (nxR m (clM m) (reps (clR m) s)) (ouR m (reps (clR m) s))) (fun a _ => N - (intOf a).toNat)
  case atStart => exact ⟨0, _, _, rfl, Nat.zero_le _, unhide HI0⟩
  case round =>
    obtain ⟨s, v1, v2, rfl, hs, hinv⟩ := hrel
    clear HI0
    have HI := hide hinv
    obtain ⟨p0, p1, p2, p3, p4, p5⟩ := box_on B1 hinv.n.d1 (by omega)
    obtain ⟨m0, m1, m2, m3, m4, m5, f4, f5⟩ := hinv.n.m0
    have f3 := hinv.f3
    have hnc := nc_le (clR m) s
    by_cases hlt : s < N
    rotate_left
    · have he : s = N := by omega
      subst he
      have hx : ¬ (s : Int) < m.n := by have := unhide HNN; omega
      have EQ : Hid (quoM m = ⟨m.kind, m.k, m.o, (nc (clR m) s : Nat), nxR m (clM m) (reps (clR m) s), ouR m (reps (clR m) s)⟩) := by
        show quoM m = _
        rw [quo_eq, unhide HNT, ← reps_len]; rfl
      have E1 : (quoM m).nx = nxR m (clM m) (reps (clR m) s) := by rw [unhide EQ]
      have E2 : (quoM m).out = ouR m (reps (clR m) s) := by rw [unhide EQ]
      have E3 : (quoM m).n = (nc (clR m) s : Nat) := by rw [unhide EQ]
      have E4 : (quoM m).kind = m.kind := rfl
      have E5 : (quoM m).k = m.k := rfl
      have E6 : (quoM m).o = m.o := rfl
      have hO1 := hinv.n.o1
      have hO2 := hinv.n.o2
      rw [← E1] at hO1
      rw [← E2] at hO2
      obtain ⟨d1, e1, ev1, -, lq1, lq1', r1, -⟩ := hO1.shape
      obtain ⟨d2, e2, ev2, -, lq2, lq2', r2, -⟩ := hO2.shape
      subst ev1 ev2
      rw [← E3] at m3
      rw [← E4] at m0
      rw [← E5] at m1
      rw [← E6] at m2
      have Zx := box_on Z1 hinv.n.d1 (by omega)
      have Fx := fun i => frz_on (F1 i) hinv.n.d1 (by omega)
      have hb := hinv.n.b1
      have hzx := hinv.n.d1.size
      have hbl : w1.heap.size < wr.heap.size := World.block_lt_of_cell? wr _ m0
      have HK := hide (rcanon_any (quoM m) d1 e1 d2 e2 wr r1 r2 (Nat.le_trans lq1 lq1') (Nat.le_trans lq2 lq2'))
      rw [cnV_quo (unhide HF)] at HK
      clear hinv hO1 hO2 E1 E2 E3 E4 E5 E6 EQ r1 r2 f3 f4 f5 HI
      go_wp2_with fail
      refine (unhide HK).mono ?_
      rintro e w4 ⟨f1, g1, f2, g2, rfl, i1, i2, hap, hb4⟩
      have b4 := bstep hb hb4
      have Z4 := Zx.below hb4
      obtain ⟨z0, z1, z2, z3, z4, z5⟩ := id Z4
      have F4 := fun i => frz_on (Fx i) hb4 (by omega)
      have y0 := F4 0
      have y1 := F4 1
      have y2 := F4 2
      have y3 := F4 3
      have y4 := F4 4
      have y5 := F4 5
      unfold mval
      clear hb4 F4 Fx HK
      dsimp only at i1 i2 hap
      dsimp only
      generalize minM m = c at *
      go_wp2
      change bodyPost _ _ _ _ _ (six w4 (w.heap.size + 1) c f1 g1 f2 g2)
      have b5 := six_below b4 (b := w.heap.size + 1) (by omega) c f1 g1 f2 g2
      have Z5 : Box (six w4 (w.heap.size + 1) c f1 g1 f2 g2) _ _ _ _ _ _ := Z4.six c f1 g1 f2 g2
      have j1 := (i1.keep fun j e => six_heap w4 c f1 g1 f2 g2 (b := w.heap.size + 1) (by have := (i1.lt e).1; omega)).mono (B' := w.heap.size) hb.size
      have j2 := (i2.keep fun j e => six_heap w4 c f1 g1 f2 g2 (b := w.heap.size + 1) (by have := (i2.lt e).1; omega)).mono (B' := w.heap.size) hb.size
      generalize six w4 (w.heap.size + 1) c f1 g1 f2 g2 = w6 at *
      obtain ⟨q0, q1, q2, q3, q4, q5⟩ := Z5
      refine bodyPost_ret (v := .tuple #[mval c f1 g1 f2 g2, .int .i64 0]) ?_ rfl (by rw [unhide H]; exact ⟨f1, g1, f2, g2, rfl, j1, j2, hap, b5⟩)
      unfold mval
      simp [results, Tryd.results27, go_sem, q0, q1, q2, q3, q4, q5]
    have hlt' : (s : Int) < m.n := by have := unhide HNN; omega
    have hltN : (s : Int) < (N : Int) := by omega
    have hd1 := hinv.n.d1
    have h3x := h3.below hd1
    obtain ⟨bC, oC, rfl, hcC⟩ := h3x.at (i := s) (by rw [unhide HLC]; exact hlt)
    have hcs := hcC s (by rw [unhide HLC]; exact hlt)
    have ecl : (aftL m (rdV m)).getD s 0 = cl (clR m) s := cl_at _ (by rw [unhide HNT]; exact hlt)
    rw [ecl] at hcs
    have H3 := hide h3
    clear h3x h3
    by_cases hold : first (clR m s) s = none
    rotate_left
    · have hlow := cl_old (clR_eqv m) (by rw [unhide HNT]; exact hlt) hold
      have HOLD := hide hold
      have tne : (cl (clR m) s != ((nc (clR m) s : Nat) : Int)) = true := bne_iff_ne.2 (by omega)
      clear hinv hcC ecl hold hlow hd1
      go_wp2
      go_quiet (fail)
      go_wp2
      go_roundw
      case rel =>
        have h9 := unhide HI
        refine ⟨s + 1, v1, v2, by go_num, by omega, ?_⟩
        rw [nc_old (unhide HOLD), reps_old (unhide HOLD)]
        exact ⟨⟨h9.n.m0.keep rfl, h9.n.o1.keep fun _ _ => rfl, h9.n.o2.keep fun _ _ => rfl, h9.n.ap, below_drewN h9.n.b1 _, below_drewN h9.n.d1 _, h9.n.wb⟩, h9.f3⟩
      case measure => simp [intOf]; omega
    have HNEW := hide hold
    rw [cl_none hold] at hcs
    have tne : (((nc (clR m) s : Nat) : Int) != ((nc (clR m) s : Nat) : Int)) = false := by simp
    clear hinv hcC ecl hold hd1
    go_wp2
    go_quiet (fail)
    have HJ : Hid (QInv m (nc (clR m) s + 1) w w1 ((wr.drewN nq).setCell ⟨w1.heap.size, 3, none⟩ (.int .i64 (((nc (clR m) s : Nat) : Int) + 1))) w1.heap.size v1 v2 (nxR m (clM m) (reps (clR m) s)) (ouR m (reps (clR m) s))) := by
      have h9 := unhide HI
      have h8 : QInv m (nc (clR m) s) w w1 (wr.drewN nq) w1.heap.size v1 v2 (nxR m (clM m) (reps (clR m) s)) (ouR m (reps (clR m) s)) := ⟨⟨h9.n.m0.keep rfl, h9.n.o1.keep fun _ _ => rfl, h9.n.o2.keep fun _ _ => rfl, h9.n.ap, below_drewN h9.n.b1 _, below_drewN h9.n.d1 _, h9.n.wb⟩, h9.f3⟩
      have h7 := h8.more
      rw [show ((nc (clR m) s + 1 : Nat) : Int) = ((nc (clR m) s : Nat) : Int) + 1 by omega] at h7
      exact h7
    go_wp2
    clear HI p0 p1 p2 p3 p4 p5 m0 m1 m2 m3 m4 m5 f3 f4 f5 hcs tne
    go_loopw [9] (fun a wx => ∃ (x : Nat) (v1 v2 : Value), a = .int .i64 x ∧ (x : Int) ≤ m.k ∧ QInv m (nc (clR m) s + 1) w w1 wx w1.heap.size v1 v2 (nxR m (clM m) (reps (clR m) s) ++ rowN m (clM m) s x) (ouR m (reps (clR m) s) ++ tl m s x)) (fun a _ => m.k.toNat - (intOf a).toNat)
    case atStart =>
      refine ⟨0, v1, v2, rfl, by omega, ?_⟩
      have h9 := unhide HJ
      have e : tl m s 0 = [] := by unfold tl rowO; split <;> rfl
      rw [e, List.append_nil]
      rwa [← List.append_nil (nxR m _ _)] at h9
    case round =>
      obtain ⟨x, u1, u2, rfl, hxk, hinv⟩ := hrel
      clear HJ
      have HI := hide hinv
      obtain ⟨p0, p1, p2, p3, p4, p5⟩ := box_on B1 hinv.n.d1 (by omega)
      obtain ⟨m0, m1, m2, m3, m4, m5, f4, f5⟩ := hinv.n.m0
      have hb := hinv.n.b1
      have hd := hinv.n.d1
      have hO1 := hinv.n.o1
      have hO2 := hinv.n.o2
      have hlA : (nxR m (clM m) (reps (clR m) s) ++ rowN m (clM m) s x).length ≤ 70000 := by
        rw [List.length_append, nxR_len, rowN_len, reps_len]
        have : nc (clR m) s * m.k.toNat ≤ 1024 * 64 := Nat.mul_le_mul (by omega) (by omega)
        omega
      have hlO : (ouR m (reps (clR m) s) ++ tl m s x).length ≤ 70000 := by
        have h5 : (tl m s x).length ≤ x := by unfold tl; split; { rw [rowO_len]; exact Nat.le_refl _ }; simp
        rw [List.length_append, ouR_len, reps_len]
        have : nc (clR m) s * pp m ≤ 1024 * 64 := Nat.mul_le_mul (by omega) (by omega)
        omega
      have hbl : w1.heap.size < wr.heap.size := World.block_lt_of_cell? wr _ m0
      clear hinv
      by_cases hx : (x : Int) < m.k
      · obtain ⟨P, hP, hPl, t0, t1, t2⟩ := way_of (unhide HR) (s := (s : Int)) (by omega) hlt' (x := (x : Int)) (by omega) hx
        obtain ⟨b', off', rfl, hn'⟩ := (h1.below hb).at hPl
        have hnP := hn' P hPl
        have hy := (unhide HR).st P hPl
        have eN : nxt m s x = m.nx.getD P 0 := by unfold nxt; rw [hP]; simp
        obtain ⟨Y, hY⟩ := Int.eq_ofNat_of_zero_le hy.1
        rw [hY] at hnP hy
        have hYl : Y < (aftL m (rdV m)).length := by rw [unhide HLC]; have := unhide HNN; omega
        have hYl' : (Y : Int) < (N : Int) := by have := unhide HNN; omega
        obtain ⟨b4, off4, e4, hpc⟩ := ((unhide H3).below hd).at hYl
        cases e4
        have hpY := hpc Y hYl
        have hPl' : (P : Int) < (m.nx.length : Int) := by omega
        have eZ : (aftL m (rdV m)).getD Y 0 = clM m (nxt m s x) := by
          rw [eN, hY]
          exact cl_at _ (by rw [unhide HNT]; have := unhide HNN; omega)
        have EZ : Hid (nxR m (clM m) (reps (clR m) s) ++ rowN m (clM m) s x ++ [(aftL m (rdV m)).getD Y 0] = nxR m (clM m) (reps (clR m) s) ++ rowN m (clM m) s (x + 1)) := by
          show _ = _; rw [rowN_succ, eZ, List.append_assoc]
        obtain ⟨A, hA⟩ : ∃ A, A = nxR m (clM m) (reps (clR m) s) ++ rowN m (clM m) s x := ⟨_, rfl⟩
        rw [← hA] at HI hO1 hlA EZ
        obtain ⟨O, hO⟩ : ∃ O, O = ouR m (reps (clR m) s) ++ tl m s x := ⟨_, rfl⟩
        rw [← hO] at HI hO2 hlO
        have HO := hide hO
        generalize (aftL m (rdV m)).getD Y 0 = z at *
        obtain ⟨av', cv', ev', -, -, -, -, -⟩ := hO1.shape
        subst ev'
        have J1 := hO1.drew
        have wr1 : IntKind.i64.wrap ((s : Int) * m.k) = s * m.k := by rw [IntKind.wrap_i64]; omega
        have wr2 : IntKind.i64.wrap (P : Int) = P := by rw [IntKind.wrap_i64]; omega
        have hq : Below wr.heap.size wr (wr.drew.alloc (.cells #[.int .i64 z] 3)) := bstep (bdrew1 wr) (ballo _ _)
        clear eN hn' hpc hA hO hY eZ
        go_wp2
        go_cut [] from 44 to 85 (fun wx => ∃ v1', QInv m (nc (clR m) s + 1) w w1 wx w1.heap.size v1' u2 (A ++ [z]) O)
        case first =>
          go_region_law (refine step_pushA eInt rfl (.tmp 51) (.tmp 65) rfl (w1.heap.size + 1) (.slice av' A.length cv') A (by rfl) (J1.alloc _) ⟨wr.heap.size, 0, none⟩ 1 [z] (by rfl) (RdL.one _ _) (by simp only [List.length_cons, List.length_nil]; omega) (by simp; omega) ?_; intro v3 w4 hown4 hb4 hg4 hat4; obtain ⟨av3, cv3, ev3, -, -, -, -, -⟩ := hown4.shape; rw [show (A ++ [z]).length = A.length + 1 by simp] at ev3; subst ev3; obtain ⟨mk4, N4⟩ := (unhide HI).push1 hq hown4 hb4 hg4 hat4; obtain ⟨q0, q1, q2, q3, q4, q5, e4, e5⟩ := mk4)
          all_goals
            go_wp2
            go_meet
            exact ⟨_, N4⟩
        case rest =>
          obtain ⟨v1', hc⟩ := hcut
          clear p0 p1 p2 p3 p4 p5 m0 m1 m2 m3 m4 m5 f4 f5 hq J1 hO1 hnP hpY HI hbl hd
          have HI := hide hc
          obtain ⟨p0, p1, p2, p3, p4, p5⟩ := box_on B1 hc.n.d1 (by omega)
          obtain ⟨m0, m1, m2, m3, m4, m5, f4, f5⟩ := hc.n.m0
          have hb := hc.n.b1
          have hO2 := hc.n.o2
          have hbl : w1.heap.size < wc.heap.size := World.block_lt_of_cell? wc _ m0
          clear hc
          by_cases hk : m.kind = 2
          · have t9 : (m.kind == 2) = true := eq_t hk
            have hPo : P < m.out.length := by have := (unhide HR).nx; have := (unhide HR).outM hk; omega
            have hPo' : (P : Int) < (m.out.length : Int) := by omega
            obtain ⟨b5, off5, rfl, hm⟩ := (h2.below hb).at hPo
            have hoP := hm P hPo
            have EO : Hid (O ++ [m.out.getD P 0] = ouR m (reps (clR m) s) ++ tl m s (x + 1)) := by
              have hpk : ((pp m : Nat) : Int) = m.k := by unfold pp; rw [if_neg (by omega), Int.toNat_of_nonneg (by omega)]
              show _ = _
              rw [unhide HO, tl_two hk, tl_two hk, rowO_succ, hpk, hP, Int.toNat_natCast, List.append_assoc]
            generalize m.out.getD P 0 = oz at *
            obtain ⟨ao, co, eo, -, -, -, -, -⟩ := hO2.shape
            subst eo
            have J2 := hO2.drew
            have hq : Below wc.heap.size wc (wc.drew.alloc (.cells #[.int .i64 oz] 3)) := bstep (bdrew1 wc) (ballo _ _)
            clear hm hk HO
            go_wp2
            go_region_law (refine step_pushA eInt rfl (.tmp 72) (.tmp 83) rfl (w1.heap.size + 1) (.slice ao O.length co) O (by rfl) (J2.alloc _) ⟨wc.heap.size, 0, none⟩ 1 [oz] (by rfl) (RdL.one _ _) (by simp only [List.length_cons, List.length_nil]; omega) (by simp; omega) ?_; intro v3 w4 hown4 hb4 hg4 hat4; obtain ⟨av3, cv3, ev3, -, -, -, -, -⟩ := hown4.shape; rw [show (O ++ [oz]).length = O.length + 1 by simp] at ev3; subst ev3; obtain ⟨⟨mk4, -⟩, N4⟩ := (unhide HI).push2 hq hown4 hb4 hg4 hat4; obtain ⟨q0, q1, q2, q3, q4, q5, e4, e5⟩ := mk4)
            all_goals
              rw [unhide EZ, unhide EO] at N4
              go_wp2
              go_roundw
              case rel => exact ⟨x + 1, _, _, by go_num, by omega, N4⟩
              case measure => simp [intOf]; omega
          · have t9 : (m.kind == 2) = false := eq_f hk
            have EO : Hid (O = ouR m (reps (clR m) s) ++ tl m s (x + 1)) := by
              show _ = _; rw [unhide HO, tl_one hk, tl_one hk]
            have hc := unhide HI
            rw [unhide EZ, unhide EO] at hc
            have HC9 := hide hc
            clear hk HO hc
            go_wp2
            go_roundw
            case rel => exact ⟨x + 1, _, _, by go_num, by omega, unhide HC9⟩
            case measure => simp [intOf]; omega
      · have HX : Hid ((x : Int) = m.k) := by show _ = _; omega
        have EZ : Hid (nxR m (clM m) (reps (clR m) s) ++ rowN m (clM m) s x = nxR m (clM m) (reps (clR m) (s + 1))) := by
          show _ = _; rw [reps_new (unhide HNEW), nxR_snoc, ← unhide HX]; simp
        by_cases hk : m.kind = 1
        · have t9 : (m.kind == 1) = true := eq_t hk
          have hQo : s < m.out.length := by have := (unhide HR).outD hk; omega
          have hQo' : (s : Int) < (m.out.length : Int) := by omega
          obtain ⟨b5, off5, rfl, hm⟩ := (h2.below hb).at hQo
          have hoQ := hm s hQo
          have hpk : pp m = 1 := by unfold pp; rw [if_pos hk]
          have EO : Hid (ouR m (reps (clR m) s) ++ tl m s x ++ [m.out.getD s 0] = ouR m (reps (clR m) (s + 1))) := by
            show _ = _
            rw [reps_new (unhide HNEW), ouR_snoc, tl_one (by omega), List.append_nil, hpk]
            congr 1
            unfold rowO
            rw [hpk]
            simp
          generalize m.out.getD s 0 = oz at *
          obtain ⟨O, hO⟩ : ∃ O, O = ouR m (reps (clR m) s) ++ tl m (s : Int) x := ⟨_, rfl⟩
          rw [← hO] at HI hO2 hlO EO
          obtain ⟨ao, co, eo, -, -, -, -, -⟩ := hO2.shape
          subst eo
          have J2 := hO2.drew
          have hq : Below wr.heap.size wr (wr.drew.alloc (.cells #[.int .i64 oz] 3)) := bstep (bdrew1 wr) (ballo _ _)
          clear hm hk hO hpk
          go_wp2
          go_region_law (refine step_pushA eInt rfl (.tmp 90) (.tmp 96) rfl (w1.heap.size + 1) (.slice ao O.length co) O (by rfl) (J2.alloc _) ⟨wr.heap.size, 0, none⟩ 1 [oz] (by rfl) (RdL.one _ _) (by simp only [List.length_cons, List.length_nil]; omega) (by simp; omega) ?_; intro v3 w4 hown4 hb4 hg4 hat4; obtain ⟨av3, cv3, ev3, -, -, -, -, -⟩ := hown4.shape; rw [show (O ++ [oz]).length = O.length + 1 by simp] at ev3; subst ev3; obtain ⟨⟨mk4, -⟩, N4⟩ := (unhide HI).push2 hq hown4 hb4 hg4 hat4; obtain ⟨q0, q1, q2, q3, q4, q5, e4, e5⟩ := mk4)
          all_goals
            rw [unhide EZ, unhide EO, ← nc_new (unhide HNEW)] at N4
            go_wp2
            go_roundw
            case rel => exact ⟨s + 1, _, _, by go_num, by omega, N4⟩
            case measure => simp [intOf]; omega
        · have t9 : (m.kind == 1) = false := eq_f hk
          have EO : Hid (ouR m (reps (clR m) s) ++ tl m s x = ouR m (reps (clR m) (s + 1))) := by
            have hk2 : m.kind = 2 := by rcases (unhide HR).kd with h | h; { exact absurd h hk }; exact h
            have hpk : pp m = x := by unfold pp; rw [if_neg hk, ← unhide HX]; simp
            show _ = _; rw [reps_new (unhide HNEW), ouR_snoc, tl_two hk2, hpk]
          have hc := unhide HI
          rw [unhide EZ, unhide EO, ← nc_new (unhide HNEW)] at hc
          have HC9 := hide hc
          clear hk hc
          go_wp2
          go_roundw
          case rel => exact ⟨s + 1, _, _, by go_num, by omega, unhide HC9⟩
          case measure => simp [intOf]; omega

end Go.Proofs.YtdnmabemollbeaaDoor
