/-
  What the reference's pick returns: the machine of some states, in memory of its own.
-/
import Derived.Test.YtdnmabemollbeaaDoorTRen
import Derived.Test.YtdnmabemollbeaaDoorTCanon
import Derived.Deep.CutRange
namespace Go.Proofs.YtdnmabemollbeaaDoor
open Go.RowKit Go.Maps

/-- What s has said by its first n symbols, in the making. -/
def tl (m : Mc) (s : Int) (n : Nat) : List Int := if m.kind = 2 then rowO m s n else []
theorem tl_two {m : Mc} (h : m.kind = 2) (s : Int) (n : Nat) : tl m s n = rowO m s n := if_pos h
theorem tl_one {m : Mc} (h : ¬ m.kind = 2) (s : Int) (n : Nat) : tl m s n = [] := if_neg h

set_option maxHeartbeats 4000000 in
theorem pick_any (m : Mc) (a1 : Option Addr) (c1 : Nat) (a2 : Option Addr) (c2 : Nat) (a3 : Option Addr) (c3 : Nat) (S : List Int) (a4 : Option Addr) (c4 : Nat) (pl : List Int) (w : World) (R : Right m) (h1 : RdL .i64 w a1 m.nx) (h2 : RdL .i64 w a2 m.out) (hS : RdL .i64 w a3 S) (hP : RdL .i64 w a4 pl)
    (hr : ∀ p, p < S.length → 0 ≤ S.getD p 0 ∧ S.getD p 0 < m.n) (hl : S.length ≤ 1024) (hpl : (pl.length : Int) = m.n) :
    Calls Tryd.prog 64 #[mval m a1 c1 a2 c2, .slice a3 S.length c3, .slice a4 pl.length c4] w fun e w' => ∃ v, e = .returned v ∧ MPost (pickV m S fun t => pl.getD t.toNat 0) w v w' := by
  unfold mval
  have hpp := pp_le R
  have hol := out_len R
  have k0 := R.k0
  have k1 := R.k1
  have n0 := R.n0
  have n1 := R.n1
  have hpl2 : pl.length ≤ 1024 := by omega
  have w2e : ∃ w2, w2 = ((w.alloc (.cells #[.int .i64 m.kind, .int .i64 m.k, .int .i64 m.o, .int .i64 m.n, .slice a1 m.nx.length c1, .slice a2 m.out.length c2] 24)).alloc (.cells #[.int .i64 0, .int .i64 0, .int .i64 0, .int .i64 0, .slice none 0 0, .slice none 0 0] 24)) := ⟨_, rfl⟩
  obtain ⟨w2, w2e⟩ := w2e
  have z2 : w2.heap.size = w.heap.size + 2 := by rw [w2e]; simp
  have B2 : Box w2 w.heap.size m a1 c1 a2 c2 := by rw [w2e]; exact (Box.alloc w m a1 c1 a2 c2 24).below (ballo _ _)
  have Z2 : Box w2 (w.heap.size + 1) mc0 none 0 none 0 := by
    have := Box.alloc (w.alloc (.cells #[.int .i64 m.kind, .int .i64 m.k, .int .i64 m.o, .int .i64 m.n, .slice a1 m.nx.length c1, .slice a2 m.out.length c2] 24)) mc0 none 0 none 0 24
    rw [w2e]
    simp only [World.size_alloc] at this
    exact this
  have b2 : Below w.heap.size w w2 := by rw [w2e]; exact bstep (ballo _ _) (ballo _ _)
  have hz2 : ∀ i, w2.frozen? ⟨w.heap.size + 1, i, none⟩ = false := fun i => by rw [w2e, frozen?_alloc_cells, frozen?_alloc_cells]; exact frz_new w (by omega)
  have I0 : NInv m S.length w w2 (w2.alloc (.cells #[.int .i64 m.kind, .int .i64 m.k, .int .i64 m.o, .int .i64 (S.length : Nat), .slice none 0 0, .slice none 0 0] 24)) (w.heap.size + 2) (.slice none 0 0) (.slice none 0 0) (nxR m (fun t => pl.getD t.toNat 0) (S.take 0)) (ouR m (S.take 0)) := by
    refine ⟨⟨?_, ?_, ?_, ?_, ?_, ?_, ?_, ?_⟩, OwnL.nil _ _ _ _, OwnL.nil _ _ _ _, (fun j e => by cases e), bstep b2 (ballo _ _), (Below.refl _ _).alloc (by omega) _, by omega⟩
    all_goals rw [← z2]
    all_goals first | (rw [frozen?_alloc_cells]; exact frz_new w2 (Nat.le_refl _)) | simp
  have HI0 := hide I0
  have HR := hide R
  have HRR := hide hr
  have HD := hide hol
  have HPL := hide hpl
  clear R hr hol I0 hpl
  go_enter Tryd.func64, Tryd.ntmps64
  go_wp2
  rw [← w2e]
  clear w2e
  go_loopw [8] (fun a wx => ∃ (i : Nat) (v1 v2 : Value), a = .int .i64 i ∧ i ≤ S.length ∧ NInv m S.length w w2 wx (w.heap.size + 2) v1 v2 (nxR m (fun t => pl.getD t.toNat 0) (S.take i)) (ouR m (S.take i))) (fun a _ => S.length - (intOf a).toNat)
  case atStart => exact ⟨0, _, _, rfl, Nat.zero_le _, unhide HI0⟩
  case round =>
    obtain ⟨i, v1, v2, rfl, hi, hinv⟩ := hrel
    clear HI0
    have HI := hide hinv
    obtain ⟨p0, p1, p2, p3, p4, p5⟩ := box_on B2 hinv.d1 (by omega)
    by_cases hlt : i < S.length
    · obtain ⟨bS, oS, rfl, hcS⟩ := (hS.below hinv.b1).at hlt
      have hci := hcS i hlt
      have hrs := unhide HRR i hlt
      have HT := hide (take_snoc hlt)
      obtain ⟨s, hs⟩ : ∃ s, s = S.getD i 0 := ⟨_, rfl⟩
      rw [← hs] at hci hrs HT
      have hlt' : (i : Int) < (S.length : Int) := by omega
      clear hcS hs hinv
      go_wp2
      go_loopw [10] (fun a wx => ∃ (x : Nat) (v1 v2 : Value), a = .int .i64 x ∧ (x : Int) ≤ m.k ∧ NInv m S.length w w2 wx (w.heap.size + 2) v1 v2 (nxR m (fun t => pl.getD t.toNat 0) (S.take i) ++ rowN m (fun t => pl.getD t.toNat 0) s x) (ouR m (S.take i) ++ tl m s x)) (fun a _ => m.k.toNat - (intOf a).toNat)
      case atStart =>
        refine ⟨0, v1, v2, rfl, by omega, ?_⟩
        have h3 := unhide HI
        have e : tl m s 0 = [] := by unfold tl rowO; split <;> rfl
        rw [e, List.append_nil]
        rwa [← List.append_nil (nxR m _ _)] at h3
      case round =>
        obtain ⟨x, u1, u2, rfl, hxk, hinv⟩ := hrel
        clear HI p0 p1 p2 p3 p4 p5
        have HI := hide hinv
        obtain ⟨p0, p1, p2, p3, p4, p5⟩ := box_on B2 hinv.d1 (by omega)
        obtain ⟨m0, m1, m2, m3, m4, m5, f4, f5⟩ := hinv.m0
        have hb := hinv.b1
        have hO1 := hinv.o1
        have hO2 := hinv.o2
        have hlA : (nxR m (fun t => pl.getD t.toNat 0) (S.take i) ++ rowN m (fun t => pl.getD t.toNat 0) s x).length ≤ 70000 := by
          rw [List.length_append, nxR_len, rowN_len, List.length_take, Nat.min_eq_left (by omega)]
          have : i * m.k.toNat ≤ 1024 * 64 := Nat.mul_le_mul (by omega) (by omega)
          omega
        have hlO : (ouR m (S.take i) ++ tl m s x).length ≤ 70000 := by
          have h5 : (tl m s x).length ≤ x := by unfold tl; split; { rw [rowO_len]; exact Nat.le_refl _ }; simp
          rw [List.length_append, ouR_len, List.length_take, Nat.min_eq_left (by omega)]
          have : i * pp m ≤ 1024 * 64 := Nat.mul_le_mul (by omega) (by omega)
          omega
        have hbl : w.heap.size + 2 < wr.heap.size := World.block_lt_of_cell? wr _ m0
        clear hinv
        by_cases hx : (x : Int) < m.k
        · obtain ⟨P, hP', hPl, t0, t1, t2⟩ := way_of (unhide HR) hrs.1 hrs.2 (x := (x : Int)) (by omega) hx
          obtain ⟨b', off', rfl, hn⟩ := (h1.below hb).at hPl
          have hnP := hn P hPl
          have hy := (unhide HR).st P hPl
          have eN : nxt m s x = m.nx.getD P 0 := by unfold nxt; rw [hP']; simp
          obtain ⟨Y, hY⟩ := Int.eq_ofNat_of_zero_le hy.1
          rw [hY] at hnP hy
          have hYl : Y < pl.length := by have := unhide HPL; omega
          have hYl' : (Y : Int) < (pl.length : Int) := by omega
          obtain ⟨b3, off3, rfl, hpc⟩ := (hP.below hb).at hYl
          have hpY := hpc Y hYl
          have hPl' : (P : Int) < (m.nx.length : Int) := by omega
          have EZ : Hid (nxR m (fun t => pl.getD t.toNat 0) (S.take i) ++ rowN m (fun t => pl.getD t.toNat 0) s x ++ [pl.getD Y 0] = nxR m (fun t => pl.getD t.toNat 0) (S.take i) ++ rowN m (fun t => pl.getD t.toNat 0) s (x + 1)) := by
            show _ = _; rw [rowN_succ, eN, hY, List.append_assoc]; rfl
          obtain ⟨A, hA⟩ : ∃ A, A = nxR m (fun t => pl.getD t.toNat 0) (S.take i) ++ rowN m (fun t => pl.getD t.toNat 0) s x := ⟨_, rfl⟩
          rw [← hA] at HI hO1 hlA EZ
          obtain ⟨O, hO⟩ : ∃ O, O = ouR m (S.take i) ++ tl m s x := ⟨_, rfl⟩
          rw [← hO] at HI hO2 hlO
          have HO := hide hO
          generalize pl.getD Y 0 = z at *
          obtain ⟨av, cv, ev, -, -, -, -, -⟩ := hO1.shape
          subst ev
          have J1 := hO1.drew
          have wr1 : IntKind.i64.wrap (s * m.k) = s * m.k := by rw [IntKind.wrap_i64]; omega
          have wr2 : IntKind.i64.wrap (P : Int) = P := by rw [IntKind.wrap_i64]; omega
          have hq : Below wr.heap.size wr (wr.drew.alloc (.cells #[.int .i64 z] 3)) := bstep (bdrew1 wr) (ballo _ _)
          clear eN hn hpc hA hO hY
          go_wp2
          go_cut [] from 30 to 71 (fun wx => ∃ v1', NInv m S.length w w2 wx (w.heap.size + 2) v1' u2 (A ++ [z]) O)
          case first =>
            go_region_law (refine step_pushA eInt rfl (.tmp 37) (.tmp 51) rfl (w.heap.size + 3) (.slice av A.length cv) A (by rfl) (J1.alloc _) ⟨wr.heap.size, 0, none⟩ 1 [z] (by rfl) (RdL.one _ _) (by simp only [List.length_cons, List.length_nil]; omega) (by simp; omega) ?_; intro v3 w4 hown4 hb4 hg4 hat4; obtain ⟨av3, cv3, ev3, -, -, -, -, -⟩ := hown4.shape; rw [show (A ++ [z]).length = A.length + 1 by simp] at ev3; subst ev3; obtain ⟨mk4, N4⟩ := (unhide HI).push1 hq hown4 hb4 hg4 hat4; obtain ⟨q0, q1, q2, q3, q4, q5, e4, e5⟩ := mk4)
            all_goals
              go_wp2
              go_meet
              exact ⟨_, N4⟩
          case rest =>
            obtain ⟨v1', hc⟩ := hcut
            clear p0 p1 p2 p3 p4 p5 m0 m1 m2 m3 m4 m5 f4 f5 hq J1 hO1 hnP hpY HI hbl
            have HI := hide hc
            obtain ⟨p0, p1, p2, p3, p4, p5⟩ := box_on B2 hc.d1 (by omega)
            obtain ⟨m0, m1, m2, m3, m4, m5, f4, f5⟩ := hc.m0
            have hb := hc.b1
            have hO2 := hc.o2
            have hbl : w.heap.size + 2 < wc.heap.size := World.block_lt_of_cell? wc _ m0
            clear hc
            by_cases hk : m.kind = 2
            · have t9 : (m.kind == 2) = true := eq_t hk
              have hPo : P < m.out.length := by have := (unhide HR).nx; have := (unhide HR).outM hk; omega
              have hPo' : (P : Int) < (m.out.length : Int) := by omega
              obtain ⟨b5, off5, rfl, hm⟩ := (h2.below hb).at hPo
              have hoP := hm P hPo
              have EO : Hid (O ++ [m.out.getD P 0] = ouR m (S.take i) ++ tl m s (x + 1)) := by
                have hpk : ((pp m : Nat) : Int) = m.k := by unfold pp; rw [if_neg (by omega), Int.toNat_of_nonneg (by omega)]
                show _ = _
                rw [unhide HO, tl_two hk, tl_two hk, rowO_succ, hpk, hP', Int.toNat_natCast, List.append_assoc]
              generalize m.out.getD P 0 = oz at *
              obtain ⟨ao, co, eo, -, -, -, -, -⟩ := hO2.shape
              subst eo
              have J2 := hO2.drew
              have hq : Below wc.heap.size wc (wc.drew.alloc (.cells #[.int .i64 oz] 3)) := bstep (bdrew1 wc) (ballo _ _)
              clear hm hk HO
              go_wp2
              go_region_law (refine step_pushA eInt rfl (.tmp 58) (.tmp 69) rfl (w.heap.size + 3) (.slice ao O.length co) O (by rfl) (J2.alloc _) ⟨wc.heap.size, 0, none⟩ 1 [oz] (by rfl) (RdL.one _ _) (by simp only [List.length_cons, List.length_nil]; omega) (by simp; omega) ?_; intro v3 w4 hown4 hb4 hg4 hat4; obtain ⟨av3, cv3, ev3, -, -, -, -, -⟩ := hown4.shape; rw [show (O ++ [oz]).length = O.length + 1 by simp] at ev3; subst ev3; obtain ⟨mk4, N4⟩ := (unhide HI).push2 hq hown4 hb4 hg4 hat4; obtain ⟨q0, q1, q2, q3, q4, q5, e4, e5⟩ := mk4)
              all_goals
                rw [unhide EZ, unhide EO] at N4
                go_wp2
                go_roundw
                case rel => exact ⟨x + 1, _, _, by go_num, by omega, N4⟩
                case measure => simp [intOf]; omega
            · have t9 : (m.kind == 2) = false := eq_f hk
              have EO : Hid (O = ouR m (S.take i) ++ tl m s (x + 1)) := by
                show _ = _; rw [unhide HO, tl_one hk, tl_one hk]
              have hc := unhide HI
              rw [unhide EZ, unhide EO] at hc
              clear hk HO
              go_wp2
              go_roundw
              case rel => exact ⟨x + 1, _, _, by go_num, by omega, hc⟩
              case measure => simp [intOf]; omega
        · have HX : Hid ((x : Int) = m.k) := by show _ = _; omega
          have EZ : Hid (nxR m (fun t => pl.getD t.toNat 0) (S.take i) ++ rowN m (fun t => pl.getD t.toNat 0) s x = nxR m (fun t => pl.getD t.toNat 0) (S.take (i + 1))) := by
            show _ = _; rw [unhide HT, nxR_snoc, ← unhide HX]; simp
          by_cases hk : m.kind = 1
          · have t9 : (m.kind == 1) = true := eq_t hk
            obtain ⟨Q, hQ⟩ := Int.eq_ofNat_of_zero_le hrs.1
            have hQo : Q < m.out.length := by have := (unhide HR).outD hk; omega
            have hQo' : (Q : Int) < (m.out.length : Int) := by omega
            obtain ⟨b5, off5, rfl, hm⟩ := (h2.below hb).at hQo
            have hoQ := hm Q hQo
            have hpk : pp m = 1 := by unfold pp; rw [if_pos hk]
            have EO : Hid (ouR m (S.take i) ++ tl m s x ++ [m.out.getD Q 0] = ouR m (S.take (i + 1))) := by
              show _ = _
              rw [unhide HT, ouR_snoc, tl_one (by omega), List.append_nil, hpk]
              congr 1
              unfold rowO
              rw [hpk, hQ]
              simp
            generalize m.out.getD Q 0 = oz at *
            subst hQ
            obtain ⟨O, hO⟩ : ∃ O, O = ouR m (S.take i) ++ tl m (Q : Int) x := ⟨_, rfl⟩
            rw [← hO] at HI hO2 hlO EO
            obtain ⟨ao, co, eo, -, -, -, -, -⟩ := hO2.shape
            subst eo
            have J2 := hO2.drew
            have hq : Below wr.heap.size wr (wr.drew.alloc (.cells #[.int .i64 oz] 3)) := bstep (bdrew1 wr) (ballo _ _)
            clear hm hk hO hpk
            go_wp2
            go_region_law (refine step_pushA eInt rfl (.tmp 76) (.tmp 82) rfl (w.heap.size + 3) (.slice ao O.length co) O (by rfl) (J2.alloc _) ⟨wr.heap.size, 0, none⟩ 1 [oz] (by rfl) (RdL.one _ _) (by simp only [List.length_cons, List.length_nil]; omega) (by simp; omega) ?_; intro v3 w4 hown4 hb4 hg4 hat4; obtain ⟨av3, cv3, ev3, -, -, -, -, -⟩ := hown4.shape; rw [show (O ++ [oz]).length = O.length + 1 by simp] at ev3; subst ev3; obtain ⟨mk4, N4⟩ := (unhide HI).push2 hq hown4 hb4 hg4 hat4; obtain ⟨q0, q1, q2, q3, q4, q5, e4, e5⟩ := mk4)
            all_goals
              rw [unhide EZ, unhide EO] at N4
              go_wp2
              go_roundw
              case rel => exact ⟨i + 1, _, _, by go_num, by omega, N4⟩
              case measure => simp [intOf]; omega
          · have t9 : (m.kind == 1) = false := eq_f hk
            have EO : Hid (ouR m (S.take i) ++ tl m s x = ouR m (S.take (i + 1))) := by
              have hk2 : m.kind = 2 := by rcases (unhide HR).kd with h | h; { exact absurd h hk }; exact h
              have hpk : pp m = x := by unfold pp; rw [if_neg hk, ← unhide HX]; simp
              show _ = _; rw [unhide HT, ouR_snoc, tl_two hk2, hpk]
            have hc := unhide HI
            rw [unhide EZ, unhide EO] at hc
            clear hk
            go_wp2
            go_roundw
            case rel => exact ⟨i + 1, _, _, by go_num, by omega, hc⟩
            case measure => simp [intOf]; omega
    · have he : i = S.length := by omega
      subst he
      rw [List.take_length] at HI hinv
      obtain ⟨m0, m1, m2, m3, m4, m5, f4, f5⟩ := hinv.m0
      have hO1 := hinv.o1
      have hO2 := hinv.o2
      obtain ⟨av, cv, ev, -, -, -, -, -⟩ := hO1.shape
      subst ev
      obtain ⟨aw, cw, ew, -, -, -, -, -⟩ := hO2.shape
      subst ew
      obtain ⟨z0, z1, z3, z4, z5, z6⟩ := box_on Z2 hinv.d1 (by omega)
      have hzr : ∀ j, wr.frozen? ⟨w.heap.size + 1, j, none⟩ = false := fun j => frz_on (hz2 j) hinv.d1 (by omega)
      have g0 := hzr 0
      have g1 := hzr 1
      have g2 := hzr 2
      have g3 := hzr 3
      have g4 := hzr 4
      have g5 := hzr 5
      clear hinv hzr hO1 hO2
      go_wp2
      change bodyPost _ _ _ _ _ (six wr (w.heap.size + 1) (pickV m S fun t => pl.getD t.toNat 0) av cv aw cw)
      have Q6 : Box (six wr (w.heap.size + 1) (pickV m S fun t => pl.getD t.toNat 0) av cv aw cw) _ _ _ _ _ _ := (Box.mk (w := wr) (b := w.heap.size + 1) (m := mc0) (a1 := none) (c1 := 0) (a2 := none) (c2 := 0) z0 z1 z3 z4 z5 z6).six (pickV m S fun t => pl.getD t.toNat 0) av cv aw cw
      have b6 := six_below (unhide HI).b1 (b := w.heap.size + 1) (by omega) (pickV m S fun t => pl.getD t.toNat 0) av cv aw cw
      have e1 := ((unhide HI).o1.keep fun j e => six_heap wr (pickV m S fun t => pl.getD t.toNat 0) av cv aw cw (b := w.heap.size + 1) (by have := ((unhide HI).o1.lt e).1; omega)).mono (B' := w.heap.size) (by omega)
      have e2 := ((unhide HI).o2.keep fun j e => six_heap wr (pickV m S fun t => pl.getD t.toNat 0) av cv aw cw (b := w.heap.size + 1) (by have := ((unhide HI).o2.lt e).1; omega)).mono (B' := w.heap.size) (by omega)
      have hap := (unhide HI).ap
      clear HI
      generalize six wr (w.heap.size + 1) (pickV m S fun t => pl.getD t.toNat 0) av cv aw cw = w6 at *
      obtain ⟨q0, q1, q2, q3, q4, q5⟩ := Q6
      refine bodyPost_ret (v := mval (pickV m S fun t => pl.getD t.toNat 0) av cv aw cw) ?_ rfl ⟨_, rfl, av, cv, aw, cw, rfl, e1, e2, hap, b6⟩
      unfold mval
      simp [results, Tryd.results64, go_sem, q0, q1, q2, q3, q4, q5]

end Go.Proofs.YtdnmabemollbeaaDoor
