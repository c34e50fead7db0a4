/-
  The law DifferEqual, walked: it returns true, whatever the input.
-/
import Derived.Test.YtknefgdcnacfoaaEStates
import Derived.Test.YtknefgdcnacfoaaK16
import Derived.Test.YtknefgdcnacfoaaSMin
import Derived.Test.YtknefgdcnacfoaaMSame2
import Derived.Deep.RegionHeld
import Derived.Deep.RegionWith
namespace Go.Proofs.Ytknefgdcnacfoaa
open Go.RowKit

theorem seE_symm {a b : Mc} (h : seE a b = 0) : seE b a = 0 := by
  obtain ⟨h1, h2, h3, h4, h5⟩ := seE_zero h
  exact seE_ok h2 h1 h3.symm h4.symm h5.symm
/-- Told apart just where the least ones are not the same. -/
theorem sep_same {a b : Mc} (h : seE a b = 0) {o : Option (List Int)} (ho : SepR a b 0 0 o) : sameM (minM a) (minM b) = !o.isSome := by
  obtain ⟨h1, h2, h3, h4, h5⟩ := seE_zero h
  have hi := sep_min (full_of h1) (full_of h2) h3.symm h4.symm h5.symm ho
  have hs := sameM_iff (a := minM a) (b := minM b) h3 h4 h5
  cases e : o.isSome
  · rw [e] at hi
    exact hs.2 (Classical.byContradiction fun c => by have := hi.2 fun e2 => c e2.symm; cases this)
  · have h9 := hi.1 e
    cases e2 : sameM (minM a) (minM b)
    · rfl
    · exact absurd (hs.1 e2).symm h9

set_option maxRecDepth 100000 in
set_option maxHeartbeats 8000000 in
theorem differEqual_walkC (C : DCtr) (a : Mc) (a1 : Option Addr) (c1 : Nat) (a2 : Option Addr) (c2 : Nat) (b : Mc) (d1 : Option Addr) (e1 : Nat) (d2 : Option Addr) (e2 : Nat) (s t : Int) (w : World) (h0 : ArgM w a a1 c1 a2 c2) (g0 : ArgM w b d1 e1 d2 e2) :
    Calls Try.prog 7 #[mval a a1 c1 a2 c2, mval b d1 e1 d2 e2, .int .i64 s, .int .i64 t] w fun e w' => e = .returned (.bool true) ∧ Below w.heap.size w w' := by
  obtain ⟨w0, hw0⟩ : ∃ w0, w0 = (w.alloc (.cells #[.int .i64 a.kind, .int .i64 a.k, .int .i64 a.o, .int .i64 a.n, .slice a1 a.nx.length c1, .slice a2 a.out.length c2] 24)).alloc (.cells #[.int .i64 b.kind, .int .i64 b.k, .int .i64 b.o, .int .i64 b.n, .slice d1 b.nx.length e1, .slice d2 b.out.length e2] 24) := ⟨_, rfl⟩
  have b0 : Below w.heap.size w w0 := by rw [hw0]; exact bstep (ballo _ _) (ballo _ _)
  have A0 : Box w0 w.heap.size a a1 c1 a2 c2 := by rw [hw0]; exact (Box.alloc w a a1 c1 a2 c2 24).below (ballo _ _)
  have B0 : Box w0 (w.heap.size + 1) b d1 e1 d2 e2 := by
    have := Box.alloc (w.alloc (.cells #[.int .i64 a.kind, .int .i64 a.k, .int .i64 a.o, .int .i64 a.n, .slice a1 a.nx.length c1, .slice a2 a.out.length c2] 24)) b d1 e1 d2 e2 24
    rw [hw0]
    simp only [World.size_alloc] at this
    exact this
  have HC := hide (big_any 20 a a1 c1 a2 c2 w0)
  unfold mval at HC ⊢
  have HA := hide A0
  have HB := hide B0
  have HW : Hid (Below w.heap.size w w0) := b0
  clear A0 B0 b0
  go_enter Try.func7, Try.ntmps7
  go_wp2_with fail
  rw [← hw0]
  refine (unhide HC).mono ?_
  rintro e w1 ⟨rfl, hb1⟩
  have HW1 := hide (bstep (unhide HW) hb1)
  have HA1 := hide ((unhide HA).below hb1)
  have HB1 := hide ((unhide HB).below hb1)
  clear HC HA HB HW hw0 hb1
  cases hbig : bigB 20 a
  rotate_left
  · clear hbig
    go_wp2_with (go_at_call 9; refine (live_any C _).mono ?_; rintro e wl ⟨rfl, hbl⟩)
    go_ret
    exact ⟨rfl, bstep (unhide HW1) hbl⟩
  obtain ⟨na, ln, lo⟩ := big_bounds hbig
  have HMA := hide (h0.ma ln lo (by omega))
  have HNA := hide na
  clear hbig na
  obtain ⟨q0, q1, q2, q3, q4, q5⟩ := unhide HB1
  have HC := hide (big_any 20 b d1 e1 d2 e2 w1)
  unfold mval at HC
  go_wp2_with fail
  refine (unhide HC).mono ?_
  rintro e w2 ⟨rfl, hb2⟩
  have HW2 := hide (bstep (unhide HW1) hb2)
  have HA2 := hide ((unhide HA1).below hb2)
  have HB2 := hide ((unhide HB1).below hb2)
  clear q0 q1 q2 q3 q4 q5 HC HA1 HB1 HW1 hb2
  cases hbig : bigB 20 b
  rotate_left
  · clear hbig
    go_wp2_with (go_at_call 9; refine (live_any C _).mono ?_; rintro e wl ⟨rfl, hbl⟩)
    go_ret
    exact ⟨rfl, bstep (unhide HW2) hbl⟩
  obtain ⟨nb, kn, ko⟩ := big_bounds hbig
  have HMB := hide (g0.ma kn ko (by omega))
  have HNB := hide nb
  clear hbig nb
  obtain ⟨p0, p1, p2, p3, p4, p5⟩ := unhide HA2
  obtain ⟨q0, q1, q2, q3, q4, q5⟩ := unhide HB2
  obtain ⟨o, ho⟩ := se_ex a b
  obtain ⟨o', ho'⟩ := se_ex b a
  obtain ⟨oa, hoa⟩ := ap_ex a s t
  have HO := hide ho
  have HO' := hide ho'
  have HOA := hide hoa
  have HC := hide (C.sep a b a1 c1 a2 c2 d1 e1 d2 e2 w2 o ((unhide HMA).below (unhide HW2)) ((unhide HMB).below (unhide HW2)) ho)
  unfold mval at HC
  clear ho ho' hoa
  go_wp2_with fail
  refine (unhide HC).mono ?_
  rintro e w3 ⟨v, rfl, hv, hb⟩
  obtain ⟨av, cv, ev, -, lv, mv, rv, -⟩ := hv.shape
  subst ev
  have HW3 := hide (bstep (unhide HW2) hb)
  have HA3 := hide ((unhide HA2).below hb)
  have HB3 := hide ((unhide HB2).below hb)
  have hml : (o.getD []).length ≤ maxLen := by omega
  clear hv hb HC p0 p1 p2 p3 p4 p5 q0 q1 q2 q3 q4 q5 lv mv HW2 HA2 HB2
  obtain ⟨p0, p1, p2, p3, p4, p5⟩ := unhide HA3
  obtain ⟨q0, q1, q2, q3, q4, q5⟩ := unhide HB3
  have HC := hide (C.sep b a d1 e1 d2 e2 a1 c1 a2 c2 w3 o' ((unhide HMB).below (unhide HW3)) ((unhide HMA).below (unhide HW3)) (unhide HO'))
  unfold mval at HC
  go_wp2_with fail
  refine (unhide HC).mono ?_
  rintro e w4 ⟨v, rfl, hv, hb⟩
  obtain ⟨av', cv', ev, -, -, -, rv', -⟩ := hv.shape
  subst ev
  have HW4 := hide (bstep (unhide HW3) hb)
  have HA4 := hide ((unhide HA3).below hb)
  have HB4 := hide ((unhide HB3).below hb)
  have rv := rv.below hb
  clear hv hb HC p0 p1 p2 p3 p4 p5 q0 q1 q2 q3 q4 q5 HW3 HA3 HB3
  obtain ⟨p0, p1, p2, p3, p4, p5⟩ := unhide HA4
  by_cases hE : seE a b = 0
  rotate_left
  · have tE := eq_f hE
    clear hE rv rv' hml
    generalize seE a b = E at *
    generalize seE b a = E' at *
    have HC := hide (C.ap a a1 c1 a2 c2 s t w4 oa ((unhide HMA).below (unhide HW4)) (unhide HOA))
    unfold mval at HC
    go_wp2_with (go_at_call 15; refine (num_any _ _).mono ?_; rintro e w' ⟨rfl, hw'⟩; subst w')
    refine (unhide HC).mono ?_
    rintro e w5 ⟨v, rfl, hv, hb⟩
    obtain ⟨au, cu, ev, -, -, -, -, -⟩ := hv.shape
    subst ev
    have HW5 := hide (bstep (unhide HW4) hb)
    have HA5 := hide ((unhide HA4).below hb)
    clear hv hb HC p0 p1 p2 p3 p4 p5
    obtain ⟨p0, p1, p2, p3, p4, p5⟩ := unhide HA5
    have HC := hide (rclasses_any a a1 c1 a2 c2 w5 (((unhide HMA).below (unhide HW5)).r1) (((unhide HMA).below (unhide HW5)).r2) (unhide HMA).m1 (unhide HMA).m2)
    unfold mval at HC
    go_wp2_with fail
    refine (unhide HC).mono ?_
    rintro e w6 ⟨v, rfl, hv, hb⟩
    obtain ⟨ac, cc, ev, -, -, -, rc, -⟩ := hv.shape
    subst ev
    have HW6 := hide (bstep (unhide HW5) hb)
    have HA6 := hide ((unhide HA5).below hb)
    clear hv hb HC p0 p1 p2 p3 p4 p5
    by_cases hP : apE a s t = 0
    rotate_left
    · have hon := (unhide HOA).2 hP
      subst hon
      have tE := ne_bne' hP
      clear hP rc
      generalize apE a s t = EA at *
      generalize (csV a).2.2 = E5 at *
      generalize (csV a).2.1 = E6 at *
      generalize (csV a).1 = E7 at *
      go_wp2_with (first | (go_at_call 15; refine (num_any _ _).mono ?_; rintro e w' ⟨rfl, hw'⟩; subst w') | (go_at_call 9; refine (live_any C _).mono ?_; rintro e wl ⟨rfl, hbl⟩))
      go_ret
      exact ⟨rfl, bstep (unhide HW6) hbl⟩
    have hse := (unhide HOA).1 hP
    obtain ⟨hz, s0, s1, t0, t1⟩ := apE_zero hP
    have R := right_of hz
    have hal := sep_alk R s0 s1 t0 t1 hse
    have haf := aft_iff (rdV a) s0 s1 t0 t1
    have hsh : Hid (∀ l, oa = some l → (l.length : Int) < a.n) := fun l e => sep_short R s0 s1 t0 t1 (by rw [e] at hse; exact hse)
    have hln := aft_len a (rdV a)
    rw [csV_ok hz] at rc ⊢
    rw [hP]
    have rc : RdL .i64 w6 ac (aftL a (rdV a)) := rc
    dsimp only
    obtain ⟨S, rfl⟩ := Int.eq_ofNat_of_zero_le s0
    obtain ⟨T, rfl⟩ := Int.eq_ofNat_of_zero_le t0
    have n1 := R.n1
    have n0 := R.n0
    have hkd := R.kd
    rw [Int.toNat_natCast, Int.toNat_natCast] at haf
    obtain ⟨bc, oc, rfl, hcc⟩ := rc.at (i := S) (by omega)
    have hS := hcc S (by omega)
    have hT := hcc T (by omega)
    have lS : (S : Int) < ((aftL a (rdV a)).length : Int) := by omega
    have lT : (T : Int) < ((aftL a (rdV a)).length : Int) := by omega
    have HTT : Hid (oa.isSome = ((aftL a (rdV a)).getD S 0 != (aftL a (rdV a)).getD T 0)) := by
      show _ = _
      rw [hal]
      cases e : alk a (rdV a) (S : Int) (T : Int)
      · exact (bne_iff_ne.2 fun c => by have := haf.1 c; rw [e] at this; cases this).symm
      · have e9 := haf.2 e
        show false = _
        rw [e9]
        simp
    clear hse hal haf hcc hP hz R s0 t0 hln
    obtain ⟨p0, p1, p2, p3, p4, p5⟩ := unhide HA6
    generalize (aftL a (rdV a)).length = NL at *
    generalize (aftL a (rdV a)).getD S 0 = xs at *
    generalize (aftL a (rdV a)).getD T 0 = xt at *
    have hs0 : w6.cell? ⟨bc, oc + S, none⟩ = some (.int .i64 xs) ∧ w6.cell? ⟨bc, oc + T, none⟩ = some (.int .i64 xt) := ⟨hS, hT⟩
    have bT : ∀ wq, Below w6.heap.size w6 wq → wq.cell? ⟨bc, oc + S, none⟩ = some (.int .i64 xs) ∧ wq.cell? ⟨bc, oc + T, none⟩ = some (.int .i64 xt) := fun wq hq => ⟨(hq.cell (World.block_lt_of_cell? _ _ hS)).trans hS, (hq.cell (World.block_lt_of_cell? _ _ hT)).trans hT⟩
    have HBT := hide bT
    clear bT
    cases oa with
    | none =>
      have tt : (xs != xt) = false := (unhide HTT).symm
      have tt2 : (xs == xt) = true := by simpa using tt
      by_cases hk : a.kind = 2
      · have tk : (a.kind == 2) = true := eq_t hk
        clear hk hkd
        go_wp2_with (go_at_call 15; refine (num_any _ _).mono ?_; rintro e w' ⟨rfl, hw'⟩; subst w')
        first | go_region_held (fun wz => wz.cell? ⟨bc, oc + S, none⟩ = some (.int .i64 xs) ∧ wz.cell? ⟨bc, oc + T, none⟩ = some (.int .i64 xt)) (first | exact hs0 | exact hsL | go_keep) (first | (go_at_call 9; refine (live_any C _).mono ?_; rintro e wl ⟨rfl, hbl⟩; have hsL := unhide HBT wl (bstep ((Below.refl _ _).drew) hbl))) | fail
        all_goals
          go_wp2
          go_ret
          exact ⟨rfl, bstep ((unhide HW6).drew) hbl⟩
      · have tk : (a.kind == 2) = false := eq_f hk
        clear hk hkd
        go_wp2_with (go_at_call 15; refine (num_any _ _).mono ?_; rintro e w' ⟨rfl, hw'⟩; subst w')
        first | go_region_held (fun wz => wz.cell? ⟨bc, oc + S, none⟩ = some (.int .i64 xs) ∧ wz.cell? ⟨bc, oc + T, none⟩ = some (.int .i64 xt)) (first | exact hs0 | exact hsL | go_keep) (first | (go_at_call 9; refine (live_any C _).mono ?_; rintro e wl ⟨rfl, hbl⟩; have hsL := unhide HBT wl (bstep ((Below.refl _ _).drew) hbl))) | fail
        all_goals
          go_wp2
          go_ret
          exact ⟨rfl, bstep ((unhide HW6).drew) hbl⟩
    | some l =>
      have tt : (xs != xt) = true := (unhide HTT).symm
      have hl : (l.length : Int) < a.n := unhide hsh l rfl
      by_cases hk : a.kind = 2
      · have tk : (a.kind == 2) = true := eq_t hk
        clear hk hkd
        have hl1 : (l.length : Int) < a.n + 1 := by omega
        go_wp2_with (go_at_call 15; refine (num_any _ _).mono ?_; rintro e w' ⟨rfl, hw'⟩; subst w')
        first | go_region_held (fun wz => wz.cell? ⟨bc, oc + S, none⟩ = some (.int .i64 xs) ∧ wz.cell? ⟨bc, oc + T, none⟩ = some (.int .i64 xt)) (first | exact hs0 | exact hsL | go_keep) (first | (go_at_call 9; refine (live_any C _).mono ?_; rintro e wl ⟨rfl, hbl⟩; have hsL := unhide HBT wl (bstep ((Below.refl _ _).drew) hbl))) | fail
        all_goals
          go_wp2
          go_ret
          exact ⟨rfl, bstep ((unhide HW6).drew) hbl⟩
      · have tk : (a.kind == 2) = false := eq_f hk
        clear hk hkd
        have hl1 : (l.length : Int) < a.n + 1 := by omega
        go_wp2_with (go_at_call 15; refine (num_any _ _).mono ?_; rintro e w' ⟨rfl, hw'⟩; subst w')
        first | go_region_held (fun wz => wz.cell? ⟨bc, oc + S, none⟩ = some (.int .i64 xs) ∧ wz.cell? ⟨bc, oc + T, none⟩ = some (.int .i64 xt)) (first | exact hs0 | exact hsL | go_keep) (first | (go_at_call 9; refine (live_any C _).mono ?_; rintro e wl ⟨rfl, hbl⟩; have hsL := unhide HBT wl (bstep ((Below.refl _ _).drew) hbl))) | fail
        all_goals
          go_wp2
          go_ret
          exact ⟨rfl, bstep ((unhide HW6).drew) hbl⟩
  have hse := (unhide HO).1 hE
  have hE' := seE_symm hE
  obtain ⟨z1, z2, z3, z4, z5⟩ := seE_zero hE
  have hoo : o' = o := SepR.one ((unhide HO').1 hE') (hse.symm z4.symm)
  have hsm := sep_same hE hse
  subst hoo
  rw [hE, hE']
  have HSM := hide hsm
  have KD : Hid ((minM a).kind = (minM b).kind ∧ (minM a).k = (minM b).k ∧ (minM a).o = (minM b).o) := ⟨z3, z4, z5⟩
  have HC := hide (rminimise_any a a1 c1 a2 c2 w4 (((unhide HMA).below (unhide HW4)).r1) (((unhide HMA).below (unhide HW4)).r2) (unhide HMA).m1 (unhide HMA).m2)
  rw [mnV_ok z1] at HC
  have HZ2 := hide z2
  unfold mval at HC
  clear hse hE' hsm z1 z2 z3 z4 z5
  go_wp2_with (go_at_call 15; refine (num_any _ _).mono ?_; rintro e w' ⟨rfl, hw'⟩; subst w')
  refine (unhide HC).mono ?_
  rintro e w5 ⟨f1, k1, f2, k2, rfl, i1, i2, -, hb⟩
  have i1 : OwnL .i64 3 w5 w4.heap.size (.slice f1 (minM a).nx.length k1) (minM a).nx := i1
  have i2 : OwnL .i64 3 w5 w4.heap.size (.slice f2 (minM a).out.length k2) (minM a).out := i2
  obtain ⟨_, _, E1, -, l1, m1, s1, -⟩ := i1.shape
  cases E1
  obtain ⟨_, _, E2, -, l2, m2, s2, -⟩ := i2.shape
  cases E2
  have An : (minM a).nx.length ≤ maxLen := by omega
  have Ao : (minM a).out.length ≤ maxLen := by omega
  generalize hAA : minM a = AA at *
  unfold mval
  dsimp only
  have x5 := ballo w5 (.cells #[.int .i64 AA.kind, .int .i64 AA.k, .int .i64 AA.o, .int .i64 AA.n, .slice f1 AA.nx.length k1, .slice f2 AA.out.length k2] 24)
  have D5 := Box.alloc w5 AA f1 k1 f2 k2 24
  obtain ⟨w6, w6e⟩ : ∃ w6, w6 = w5.alloc (.cells #[.int .i64 AA.kind, .int .i64 AA.k, .int .i64 AA.o, .int .i64 AA.n, .slice f1 AA.nx.length k1, .slice f2 AA.out.length k2] 24) := ⟨_, rfl⟩
  rw [← w6e] at x5 D5
  have HW6 := hide (bstep (bstep (unhide HW4) hb) x5)
  have HA6 := hide (((unhide HA4).below hb).below x5)
  have HB6 := hide (((unhide HB4).below hb).below x5)
  have HD6 := hide D5
  have HR1 := hide (s1.below x5)
  have HR2 := hide (s2.below x5)
  have rv := (rv.below hb).below x5
  have rv' := (rv'.below hb).below x5
  clear i1 i2 l1 m1 l2 m2 s1 s2 hb x5 D5 HC HW4 HA4 HB4 p0 p1 p2 p3 p4 p5
  have qB := unhide HB6
  rw [w6e] at qB
  obtain ⟨q0, q1, q2, q3, q4, q5⟩ := qB
  have HC := hide (rminimise_any b d1 e1 d2 e2 w6 (((unhide HMB).below (unhide HW6)).r1) (((unhide HMB).below (unhide HW6)).r2) (unhide HMB).m1 (unhide HMB).m2)
  rw [mnV_ok (unhide HZ2)] at HC
  unfold mval at HC
  go_wp2_with fail
  rw [← w6e]
  refine (unhide HC).mono ?_
  rintro e w7 ⟨g1, j1, g2, j2, rfl, i1, i2, -, hb⟩
  have i1 : OwnL .i64 3 w7 w6.heap.size (.slice g1 (minM b).nx.length j1) (minM b).nx := i1
  have i2 : OwnL .i64 3 w7 w6.heap.size (.slice g2 (minM b).out.length j2) (minM b).out := i2
  obtain ⟨_, _, E1, -, -, -, s1, -⟩ := i1.shape
  cases E1
  obtain ⟨_, _, E2, -, -, -, s2, -⟩ := i2.shape
  cases E2
  generalize hBB : minM b = BB at *
  unfold mval
  dsimp only
  have x7 := ballo w7 (.cells #[.int .i64 BB.kind, .int .i64 BB.k, .int .i64 BB.o, .int .i64 BB.n, .slice g1 BB.nx.length j1, .slice g2 BB.out.length j2] 24)
  have E7 := Box.alloc w7 BB g1 j1 g2 j2 24
  obtain ⟨w8, w8e⟩ : ∃ w8, w8 = w7.alloc (.cells #[.int .i64 BB.kind, .int .i64 BB.k, .int .i64 BB.o, .int .i64 BB.n, .slice g1 BB.nx.length j1, .slice g2 BB.out.length j2] 24) := ⟨_, rfl⟩
  rw [← w8e] at x7 E7
  have HW8 := hide (bstep (bstep (unhide HW6) hb) x7)
  have HA8 := hide (((unhide HA6).below hb).below x7)
  have HD8 := hide (((unhide HD6).below hb).below x7)
  have HE8 := hide E7
  have r1 := ((unhide HR1).below hb).below x7
  have r2 := ((unhide HR2).below hb).below x7
  have k1' := s1.below x7
  have k2' := s2.below x7
  have rv := (rv.below hb).below x7
  have rv' := (rv'.below hb).below x7
  clear i1 i2 s1 s2 hb x7 E7 HC HW6 HA6 HB6 HD6 HR1 HR2 q0 q1 q2 q3 q4 q5 w6e
  have HS := hide (same_list av av' cv cv' (o'.getD []) (o'.getD []) w8 rv rv' hml)
  rw [show decide (o'.getD [] = o'.getD []) = true from decide_eq_true rfl] at HS
  generalize o'.getD [] = lo at *
  have hob : ∃ B : Bool, B = o'.isSome := ⟨_, rfl⟩
  obtain ⟨B, hB⟩ := hob
  rw [← hB] at HSM ⊢
  clear hB
  obtain ⟨zz, hzz⟩ : ∃ zz, zz = !B := ⟨_, rfl⟩
  rw [← hzz] at HSM
  have tb1 : (B != B) = false := by simp
  have tb2 : (B == zz) = false := by rw [hzz]; cases B <;> rfl
  clear hzz
  all_goals
    go_wp2_with (go_at_call 15; refine (num_any _ _).mono ?_; rintro e w' ⟨rfl, hw'⟩; subst w')
    rw [← w8e]
    refine (unhide HS).mono ?_
    rintro e w9 ⟨rfl, hb⟩
    have HW9 := hide (bstep (unhide HW8) hb)
    have HA9 := hide ((unhide HA8).below hb)
    obtain ⟨x0, x1, x2, x3, x4, x5⟩ := (unhide HD8).below hb
    obtain ⟨y0, y1, y2, y3, y4, y5⟩ := (unhide HE8).below hb
    have HM9 := hide (msame2_any AA BB f1 k1 f2 k2 g1 j1 g2 j2 w9 (r1.below hb) (r2.below hb) (k1'.below hb) (k2'.below hb) An Ao (unhide KD).1 (unhide KD).2.1 (unhide KD).2.2)
    rw [unhide HSM] at HM9
    unfold mval at HM9
    clear hb HS HW8 HA8 HD8 HE8 r1 r2 k1' k2' rv rv' hml w8e
    go_wp2_with fail
    refine (unhide HM9).mono ?_
    rintro e w10 ⟨rfl, hb⟩
    have HW10 := hide (bstep (unhide HW9) hb)
    have HA10 := hide ((unhide HA9).below hb)
    clear hb HM9 HW9 HA9 x0 x1 x2 x3 x4 x5 y0 y1 y2 y3 y4 y5
    obtain ⟨p0, p1, p2, p3, p4, p5⟩ := unhide HA10
    have HC := hide (C.ap a a1 c1 a2 c2 s t w10 oa ((unhide HMA).below (unhide HW10)) (unhide HOA))
    unfold mval at HC
    go_wp2_with fail
    refine (unhide HC).mono ?_
    rintro e w11 ⟨v, rfl, hv, hb⟩
    obtain ⟨au, cu, ev, -, -, -, -, -⟩ := hv.shape
    subst ev
    have HW11 := hide (bstep (unhide HW10) hb)
    have HA11 := hide ((unhide HA10).below hb)
    clear hv hb HC p0 p1 p2 p3 p4 p5
    obtain ⟨p0, p1, p2, p3, p4, p5⟩ := unhide HA11
    have HC := hide (rclasses_any a a1 c1 a2 c2 w11 (((unhide HMA).below (unhide HW11)).r1) (((unhide HMA).below (unhide HW11)).r2) (unhide HMA).m1 (unhide HMA).m2)
    unfold mval at HC
    go_wp2_with fail
    refine (unhide HC).mono ?_
    rintro e w12 ⟨v, rfl, hv, hb⟩
    obtain ⟨ac, cc, ev, -, -, -, rc, -⟩ := hv.shape
    subst ev
    have HW12 := hide (bstep (unhide HW11) hb)
    have HA12 := hide ((unhide HA11).below hb)
    clear hv hb HC p0 p1 p2 p3 p4 p5
    by_cases hP : apE a s t = 0
    rotate_left
    · have hon := (unhide HOA).2 hP
      subst hon
      have tE := ne_bne' hP
      clear hP rc
      generalize apE a s t = EA at *
      generalize (csV a).2.2 = E5 at *
      generalize (csV a).2.1 = E6 at *
      generalize (csV a).1 = E7 at *
      go_wp2_with (first | (go_at_call 15; refine (num_any _ _).mono ?_; rintro e w' ⟨rfl, hw'⟩; subst w') | (go_at_call 9; refine (live_any C _).mono ?_; rintro e wl ⟨rfl, hbl⟩))
      go_ret
      exact ⟨rfl, bstep (unhide HW12) hbl⟩
    have hse := (unhide HOA).1 hP
    obtain ⟨hz, s0, s1, t0, t1⟩ := apE_zero hP
    have R := right_of hz
    have hal := sep_alk R s0 s1 t0 t1 hse
    have haf := aft_iff (rdV a) s0 s1 t0 t1
    have hsh : Hid (∀ l, oa = some l → (l.length : Int) < a.n) := fun l e => sep_short R s0 s1 t0 t1 (by rw [e] at hse; exact hse)
    have hln := aft_len a (rdV a)
    rw [csV_ok hz] at rc ⊢
    rw [hP]
    have rc : RdL .i64 w12 ac (aftL a (rdV a)) := rc
    dsimp only
    obtain ⟨S, rfl⟩ := Int.eq_ofNat_of_zero_le s0
    obtain ⟨T, rfl⟩ := Int.eq_ofNat_of_zero_le t0
    have n1 := R.n1
    have n0 := R.n0
    have hkd := R.kd
    rw [Int.toNat_natCast, Int.toNat_natCast] at haf
    obtain ⟨bc, oc, rfl, hcc⟩ := rc.at (i := S) (by omega)
    have hS := hcc S (by omega)
    have hT := hcc T (by omega)
    have lS : (S : Int) < ((aftL a (rdV a)).length : Int) := by omega
    have lT : (T : Int) < ((aftL a (rdV a)).length : Int) := by omega
    have HTT : Hid (oa.isSome = ((aftL a (rdV a)).getD S 0 != (aftL a (rdV a)).getD T 0)) := by
      show _ = _
      rw [hal]
      cases e : alk a (rdV a) (S : Int) (T : Int)
      · exact (bne_iff_ne.2 fun c => by have := haf.1 c; rw [e] at this; cases this).symm
      · have e9 := haf.2 e
        show false = _
        rw [e9]
        simp
    clear hse hal haf hcc hP hz R s0 t0 hln
    obtain ⟨p0, p1, p2, p3, p4, p5⟩ := unhide HA12
    generalize (aftL a (rdV a)).length = NL at *
    generalize (aftL a (rdV a)).getD S 0 = xs at *
    generalize (aftL a (rdV a)).getD T 0 = xt at *
    have hs0 : w12.cell? ⟨bc, oc + S, none⟩ = some (.int .i64 xs) ∧ w12.cell? ⟨bc, oc + T, none⟩ = some (.int .i64 xt) := ⟨hS, hT⟩
    have bT : ∀ wq, Below w12.heap.size w12 wq → wq.cell? ⟨bc, oc + S, none⟩ = some (.int .i64 xs) ∧ wq.cell? ⟨bc, oc + T, none⟩ = some (.int .i64 xt) := fun wq hq => ⟨(hq.cell (World.block_lt_of_cell? _ _ hS)).trans hS, (hq.cell (World.block_lt_of_cell? _ _ hT)).trans hT⟩
    have HBT := hide bT
    clear bT
    cases oa with
    | none =>
      have tt : (xs != xt) = false := (unhide HTT).symm
      have tt2 : (xs == xt) = true := by simpa using tt
      by_cases hk : a.kind = 2
      · have tk : (a.kind == 2) = true := eq_t hk
        clear hk hkd
        go_wp2_with (go_at_call 15; refine (num_any _ _).mono ?_; rintro e w' ⟨rfl, hw'⟩; subst w')
        first | go_region_held (fun wz => wz.cell? ⟨bc, oc + S, none⟩ = some (.int .i64 xs) ∧ wz.cell? ⟨bc, oc + T, none⟩ = some (.int .i64 xt)) (first | exact hs0 | exact hsL | go_keep) (first | (go_at_call 9; refine (live_any C _).mono ?_; rintro e wl ⟨rfl, hbl⟩; have hsL := unhide HBT wl (bstep ((Below.refl _ _).drew) hbl))) | fail
        all_goals
          go_wp2
          go_ret
          exact ⟨rfl, bstep ((unhide HW12).drew) hbl⟩
      · have tk : (a.kind == 2) = false := eq_f hk
        clear hk hkd
        go_wp2_with (go_at_call 15; refine (num_any _ _).mono ?_; rintro e w' ⟨rfl, hw'⟩; subst w')
        first | go_region_held (fun wz => wz.cell? ⟨bc, oc + S, none⟩ = some (.int .i64 xs) ∧ wz.cell? ⟨bc, oc + T, none⟩ = some (.int .i64 xt)) (first | exact hs0 | exact hsL | go_keep) (first | (go_at_call 9; refine (live_any C _).mono ?_; rintro e wl ⟨rfl, hbl⟩; have hsL := unhide HBT wl (bstep ((Below.refl _ _).drew) hbl))) | fail
        all_goals
          go_wp2
          go_ret
          exact ⟨rfl, bstep ((unhide HW12).drew) hbl⟩
    | some l =>
      have tt : (xs != xt) = true := (unhide HTT).symm
      have hl : (l.length : Int) < a.n := unhide hsh l rfl
      by_cases hk : a.kind = 2
      · have tk : (a.kind == 2) = true := eq_t hk
        clear hk hkd
        have hl1 : (l.length : Int) < a.n + 1 := by omega
        go_wp2_with (go_at_call 15; refine (num_any _ _).mono ?_; rintro e w' ⟨rfl, hw'⟩; subst w')
        first | go_region_held (fun wz => wz.cell? ⟨bc, oc + S, none⟩ = some (.int .i64 xs) ∧ wz.cell? ⟨bc, oc + T, none⟩ = some (.int .i64 xt)) (first | exact hs0 | exact hsL | go_keep) (first | (go_at_call 9; refine (live_any C _).mono ?_; rintro e wl ⟨rfl, hbl⟩; have hsL := unhide HBT wl (bstep ((Below.refl _ _).drew) hbl))) | fail
        all_goals
          go_wp2
          go_ret
          exact ⟨rfl, bstep ((unhide HW12).drew) hbl⟩
      · have tk : (a.kind == 2) = false := eq_f hk
        clear hk hkd
        have hl1 : (l.length : Int) < a.n + 1 := by omega
        go_wp2_with (go_at_call 15; refine (num_any _ _).mono ?_; rintro e w' ⟨rfl, hw'⟩; subst w')
        first | go_region_held (fun wz => wz.cell? ⟨bc, oc + S, none⟩ = some (.int .i64 xs) ∧ wz.cell? ⟨bc, oc + T, none⟩ = some (.int .i64 xt)) (first | exact hs0 | exact hsL | go_keep) (first | (go_at_call 9; refine (live_any C _).mono ?_; rintro e wl ⟨rfl, hbl⟩; have hsL := unhide HBT wl (bstep ((Below.refl _ _).drew) hbl))) | fail
        all_goals
          go_wp2
          go_ret
          exact ⟨rfl, bstep ((unhide HW12).drew) hbl⟩
end Go.Proofs.Ytknefgdcnacfoaa
