/-
  The law DifferSeparates, walked: it returns true, whatever the input.
-/
import Derived.Test.YtknefgdcnacfoaaEStates
import Derived.Test.YtknefgdcnacfoaaDTwoA
import Derived.Test.YtknefgdcnacfoaaK6
import Derived.Deep.CutRange
import Derived.Deep.RegionHeld
namespace Go.Proofs.Ytknefgdcnacfoaa
open Go.RowKit

set_option maxRecDepth 100000 in
set_option maxHeartbeats 4000000 in
theorem differSeparates_walkC (C : DCtr) (a : Mc) (a1 : Option Addr) (c1 : Nat) (a2 : Option Addr) (c2 : Nat) (b : Mc) (d1 : Option Addr) (e1 : Nat) (d2 : Option Addr) (e2 : Nat) (w : World) (h0 : ArgM w a a1 c1 a2 c2) (g0 : ArgM w b d1 e1 d2 e2) :
    Calls Try.prog 3 #[mval a a1 c1 a2 c2, mval b d1 e1 d2 e2] w fun e w' => e = .returned (.bool true) ∧ Below w.heap.size w w' := by
  obtain ⟨w0, hw0⟩ : ∃ w0, w0 = (w.alloc (.cells #[.int .i64 a.kind, .int .i64 a.k, .int .i64 a.o, .int .i64 a.n, .slice a1 a.nx.length c1, .slice a2 a.out.length c2] 24)).alloc (.cells #[.int .i64 b.kind, .int .i64 b.k, .int .i64 b.o, .int .i64 b.n, .slice d1 b.nx.length e1, .slice d2 b.out.length e2] 24) := ⟨_, rfl⟩
  have b0 : Below w.heap.size w w0 := by rw [hw0]; exact bstep (ballo _ _) (ballo _ _)
  have A0 : Box w0 w.heap.size a a1 c1 a2 c2 := by rw [hw0]; exact (Box.alloc w a a1 c1 a2 c2 24).below (ballo _ _)
  have B0 : Box w0 (w.heap.size + 1) b d1 e1 d2 e2 := by
    have := Box.alloc (w.alloc (.cells #[.int .i64 a.kind, .int .i64 a.k, .int .i64 a.o, .int .i64 a.n, .slice a1 a.nx.length c1, .slice a2 a.out.length c2] 24)) b d1 e1 d2 e2 24
    rw [hw0]
    simp only [World.size_alloc] at this
    exact this
  have HC := hide (big_any 60 a a1 c1 a2 c2 w0)
  unfold mval at HC ⊢
  have HA := hide A0
  have HB := hide B0
  have HW : Hid (Below w.heap.size w w0) := b0
  clear A0 B0 b0
  go_enter Try.func3, Try.ntmps3
  go_wp2_with fail
  rw [← hw0]
  refine (unhide HC).mono ?_
  rintro e w1 ⟨rfl, hb1⟩
  have HW1 := hide (bstep (unhide HW) hb1)
  have HA1 := hide ((unhide HA).below hb1)
  have HB1 := hide ((unhide HB).below hb1)
  clear HC HA HB HW hw0 hb1
  cases hbig : bigB 60 a
  rotate_left
  · clear hbig
    go_wp2_with (go_at_call 9; refine (live_any C _).mono ?_; rintro e wl ⟨rfl, hbl⟩)
    go_ret
    exact ⟨rfl, bstep (unhide HW1) hbl⟩
  obtain ⟨na, ln, lo⟩ := big_bounds hbig
  have HMA := hide (h0.ma ln lo (by omega))
  clear hbig
  obtain ⟨q0, q1, q2, q3, q4, q5⟩ := unhide HB1
  have HC := hide (big_any 60 b d1 e1 d2 e2 w1)
  unfold mval at HC
  go_wp2_with fail
  refine (unhide HC).mono ?_
  rintro e w2 ⟨rfl, hb2⟩
  have HW2 := hide (bstep (unhide HW1) hb2)
  have HA2 := hide ((unhide HA1).below hb2)
  have HB2 := hide ((unhide HB1).below hb2)
  clear q0 q1 q2 q3 q4 q5 HC HA1 HB1 HW1 hb2
  cases hbig : bigB 60 b
  rotate_left
  · clear hbig
    go_wp2_with (go_at_call 9; refine (live_any C _).mono ?_; rintro e wl ⟨rfl, hbl⟩)
    go_ret
    exact ⟨rfl, bstep (unhide HW2) hbl⟩
  obtain ⟨nb, kn, ko⟩ := big_bounds hbig
  have HMB := hide (g0.ma kn ko (by omega))
  clear hbig
  obtain ⟨p0, p1, p2, p3, p4, p5⟩ := unhide HA2
  obtain ⟨q0, q1, q2, q3, q4, q5⟩ := unhide HB2
  go_wp2
  go_cut [5, 6] from 22 to 25 (fun v5 v6 wx => ∃ (x y : Nat) (f1 : Option Addr) (g1 : Nat) (f2 : Option Addr) (g2 : Nat) (r1 : Option Addr) (s1 : Nat) (r2 : Option Addr) (s2 : Nat), v5 = .pointer (some ⟨x, 0, none⟩) ∧ v6 = .pointer (some ⟨y, 0, none⟩) ∧ Box wx x a f1 g1 f2 g2 ∧ Box wx y b r1 s1 r2 s2 ∧ MA wx a f1 g1 f2 g2 ∧ MA wx b r1 s1 r2 s2 ∧ Below w2.heap.size w2 wx)
  case first =>
    rename_i hJ hK
    have CA : CpC w2 a a1 c1 a2 c2 := fun W hW => copy_own a a1 c1 a2 c2 W (((unhide HMA).below (unhide HW2)).below hW).r1 (((unhide HMA).below (unhide HW2)).below hW).r2 h0.nx.nil h0.out.nil ln lo
    have CB : CpC w2 b d1 e1 d2 e2 := fun W hW => copy_own b d1 e1 d2 e2 W (((unhide HMB).below (unhide HW2)).below hW).r1 (((unhide HMB).below (unhide HW2)).below hW).r2 g0.nx.nil g0.out.nil kn ko
    refine two_any _ w2 a b a1 c1 a2 c2 d1 e1 d2 e2 w.heap.size (w.heap.size + 1) rfl rfl rfl (unhide HA2) (unhide HB2) CA CB ?_
    intro L a' w' x y f1 g1 f2 g2 r1 s1 r2 s2 hall h
    have v1 := h.v1 (hall 1 (by omega))
    have v3 := h.v3 (hall 3 (by omega))
    refine hK a' w' (hJ a' w' ⟨a'.eval (.tmp 5), a'.eval (.tmp 6), a'.eval (.tmp 22), a'.eval (.tmp 23), a'.eval (.tmp 24), a'.eval (.tmp 25), ⟨x, y, f1, g1, f2, g2, r1, s1, r2, s2, (h.v4 (hall 4 (by omega))).1, (h.v5 (hall 5 (by omega))).1, h.c6 (hall 6 (by omega)), h.c7 (hall 7 (by omega)), own_ma v1.2.1 v1.2.2 ln lo (by omega), own_ma v3.2.1 v3.2.2 kn ko (by omega), h.bl⟩, ?_⟩)
    have e1 := act_of (by kernel_rfl) h.sz h.df h.ag
    refine e1.trans ?_
    kernel_rfl
  case rest =>
    obtain ⟨x, y, f1, g1, f2, g2, r1, s1, r2, s2, rfl, rfl, hX, hY, mX, mY, hbc⟩ := hcut
    obtain ⟨o, ho⟩ := se_ex a b
    have HO := hide ho
    have HWc := hide (bstep (unhide HW2) hbc)
    have HAc := hide ((unhide HA2).below hbc)
    have HBc := hide ((unhide HB2).below hbc)
    have HXc := hide hX
    have HYc := hide hY
    have HMX := hide mX
    have HMY := hide mY
    clear p0 p1 p2 p3 p4 p5 q0 q1 q2 q3 q4 q5 hbc ho mX mY HA2 HB2 HW2
    obtain ⟨p0, p1, p2, p3, p4, p5⟩ := hX
    obtain ⟨q0, q1, q2, q3, q4, q5⟩ := hY
    have HC := hide (C.sep a b f1 g1 f2 g2 r1 s1 r2 s2 wc o (unhide HMX) (unhide HMY) (unhide HO))
    unfold mval at HC
    go_wp2_with fail
    refine (unhide HC).mono ?_
    rintro e w3 ⟨v, rfl, hv, hb3⟩
    obtain ⟨av, cv, ev, -, lv, mv, rv, -⟩ := hv.shape
    subst ev
    have hml : (o.getD []).length ≤ maxLen := by omega
    have HW3 := hide (bstep (unhide HWc) hb3)
    have HA3 := hide ((unhide HAc).below hb3)
    have HB3 := hide ((unhide HBc).below hb3)
    have HX3 := hide ((unhide HXc).below hb3)
    have HY3 := hide ((unhide HYc).below hb3)
    have HMX3 := hide ((unhide HMX).below hb3)
    have HMY3 := hide ((unhide HMY).below hb3)
    clear p0 p1 p2 p3 p4 p5 q0 q1 q2 q3 q4 q5 hb3 HAc HBc HXc HYc HWc HMX HMY hv HC lv mv
    obtain ⟨p0, p1, p2, p3, p4, p5⟩ := unhide HA3
    obtain ⟨q0, q1, q2, q3, q4, q5⟩ := unhide HB3
    have HC := hide (rseparate_any a b a1 c1 a2 c2 d1 e1 d2 e2 w3 o ((unhide HMA).below (unhide HW3)).r1 ((unhide HMA).below (unhide HW3)).r2 ((unhide HMB).below (unhide HW3)).r1 ((unhide HMB).below (unhide HW3)).r2 (unhide HMA).m1 (unhide HMA).m2 (unhide HMB).m1 (unhide HMB).m2 (unhide HO))
    unfold mval at HC
    go_wp2_with fail
    refine (unhide HC).mono ?_
    rintro e w4 ⟨v, rfl, hv, hb4⟩
    obtain ⟨av', cv', ev, -, -, -, rv', -⟩ := hv.shape
    subst ev
    have rv := rv.below hb4
    have HW4 := hide (bstep (unhide HW3) hb4)
    have HA4 := hide ((unhide HA3).below hb4)
    have HB4 := hide ((unhide HB3).below hb4)
    have HX4 := hide ((unhide HX3).below hb4)
    have HY4 := hide ((unhide HY3).below hb4)
    have HMX4 := hide ((unhide HMX3).below hb4)
    have HMY4 := hide ((unhide HMY3).below hb4)
    clear p0 p1 p2 p3 p4 p5 q0 q1 q2 q3 q4 q5 hb4 HA3 HB3 HX3 HY3 HW3 HMX3 HMY3 hv HC
    obtain ⟨p0, p1, p2, p3, p4, p5⟩ := unhide HX4
    obtain ⟨q0, q1, q2, q3, q4, q5⟩ := unhide HY4
    have HC := hide (C.eq a b f1 g1 f2 g2 r1 s1 r2 s2 w4 o (unhide HMX4) (unhide HMY4) (unhide HO))
    unfold mval at HC
    go_wp2_with fail
    refine (unhide HC).mono ?_
    rintro e w5 ⟨rfl, hb5⟩
    have rv := rv.below hb5
    have rv' := rv'.below hb5
    have HW5 := hide (bstep (unhide HW4) hb5)
    have HA5 := hide ((unhide HA4).below hb5)
    have HB5 := hide ((unhide HB4).below hb5)
    have HX5 := hide ((unhide HX4).below hb5)
    have HY5 := hide ((unhide HY4).below hb5)
    have HMX5 := hide ((unhide HMX4).below hb5)
    have HMY5 := hide ((unhide HMY4).below hb5)
    clear p0 p1 p2 p3 p4 p5 q0 q1 q2 q3 q4 q5 hb5 HA4 HB4 HX4 HY4 HW4 HMX4 HMY4 HC
    have te := self_eq (seE a b)
    obtain ⟨E, hE⟩ : ∃ E, E = seE a b := ⟨_, rfl⟩
    obtain ⟨os, hos⟩ : ∃ os, os = o.isSome := ⟨_, rfl⟩
    rw [← hE] at te
    rw [← hE, ← hos]
    clear hE hos
    generalize o.getD [] = l at *
    have HS := hide (same_list av av' cv cv' l l w5 rv rv' hml)
    rw [show decide (l = l) = true from decide_eq_true rfl] at HS
    by_cases hz : E = 0
    · subst hz
      rw [decide_eq_true (rfl : (0 : Int) = 0)]
      cases os
      all_goals
        go_wp2_with fail
        refine (unhide HS).mono ?_
        rintro e w6 ⟨rfl, hb6⟩
        have HW6 := hide (bstep (unhide HW5) hb6)
        have HA6 := hide ((unhide HA5).below hb6)
        have HB6 := hide ((unhide HB5).below hb6)
        have HX6 := hide ((unhide HX5).below hb6)
        have HY6 := hide ((unhide HY5).below hb6)
        have HMX6 := hide ((unhide HMX5).below hb6)
        have HMY6 := hide ((unhide HMY5).below hb6)
        clear hb6 HS HA5 HB5 HX5 HY5 HW5 HMX5 HMY5 rv rv'
        obtain ⟨p0, p1, p2, p3, p4, p5⟩ := unhide HA6
        obtain ⟨q0, q1, q2, q3, q4, q5⟩ := unhide HX6
        have HC := hide (msame_any a f1 g1 f2 g2 a1 c1 a2 c2 w6 (unhide HMX6).r1 (unhide HMX6).r2 ((unhide HMA).below (unhide HW6)).r1 ((unhide HMA).below (unhide HW6)).r2 (unhide HMA).m1 (unhide HMA).m2)
        unfold mval at HC
        go_wp2_with (go_at_call 15; refine (num_any _ _).mono ?_; rintro e w' ⟨rfl, hw'⟩; subst w')
        refine (unhide HC).mono ?_
        rintro e w7 ⟨rfl, hb7⟩
        have HW7 := hide (bstep (unhide HW6) hb7)
        have HB7 := hide ((unhide HB6).below hb7)
        have HY7 := hide ((unhide HY6).below hb7)
        have HMY7 := hide ((unhide HMY6).below hb7)
        clear hb7 HC HA6 HB6 HX6 HY6 HW6 HMX6 HMY6 p0 p1 p2 p3 p4 p5 q0 q1 q2 q3 q4 q5
        obtain ⟨p0, p1, p2, p3, p4, p5⟩ := unhide HB7
        obtain ⟨q0, q1, q2, q3, q4, q5⟩ := unhide HY7
        have HC := hide (msame_any b r1 s1 r2 s2 d1 e1 d2 e2 w7 (unhide HMY7).r1 (unhide HMY7).r2 ((unhide HMB).below (unhide HW7)).r1 ((unhide HMB).below (unhide HW7)).r2 (unhide HMB).m1 (unhide HMB).m2)
        unfold mval at HC
        go_wp2_with fail
        refine (unhide HC).mono ?_
        rintro e w8 ⟨rfl, hb8⟩
        have HW8 := hide (bstep (unhide HW7) hb8)
        clear hb8 HC HB7 HY7 HMY7 HW7 p0 p1 p2 p3 p4 p5 q0 q1 q2 q3 q4 q5
        go_wp2_with (go_at_call 9; refine (live_any C _).mono ?_; rintro e wl ⟨rfl, hbl⟩)
        go_ret
        exact ⟨rfl, bstep (unhide HW8) hbl⟩
    · have tz : (E == 0) = false := by simp [hz]
      rw [decide_eq_false hz]
      clear hz
      cases os
      all_goals
        go_wp2_with fail
        refine (unhide HS).mono ?_
        rintro e w6 ⟨rfl, hb6⟩
        have HW6 := hide (bstep (unhide HW5) hb6)
        have HA6 := hide ((unhide HA5).below hb6)
        have HB6 := hide ((unhide HB5).below hb6)
        have HX6 := hide ((unhide HX5).below hb6)
        have HY6 := hide ((unhide HY5).below hb6)
        have HMX6 := hide ((unhide HMX5).below hb6)
        have HMY6 := hide ((unhide HMY5).below hb6)
        clear hb6 HS HA5 HB5 HX5 HY5 HW5 HMX5 HMY5 rv rv'
        obtain ⟨p0, p1, p2, p3, p4, p5⟩ := unhide HA6
        obtain ⟨q0, q1, q2, q3, q4, q5⟩ := unhide HX6
        have HC := hide (msame_any a f1 g1 f2 g2 a1 c1 a2 c2 w6 (unhide HMX6).r1 (unhide HMX6).r2 ((unhide HMA).below (unhide HW6)).r1 ((unhide HMA).below (unhide HW6)).r2 (unhide HMA).m1 (unhide HMA).m2)
        unfold mval at HC
        go_wp2_with (go_at_call 15; refine (num_any _ _).mono ?_; rintro e w' ⟨rfl, hw'⟩; subst w')
        refine (unhide HC).mono ?_
        rintro e w7 ⟨rfl, hb7⟩
        have HW7 := hide (bstep (unhide HW6) hb7)
        have HB7 := hide ((unhide HB6).below hb7)
        have HY7 := hide ((unhide HY6).below hb7)
        have HMY7 := hide ((unhide HMY6).below hb7)
        clear hb7 HC HA6 HB6 HX6 HY6 HW6 HMX6 HMY6 p0 p1 p2 p3 p4 p5 q0 q1 q2 q3 q4 q5
        obtain ⟨p0, p1, p2, p3, p4, p5⟩ := unhide HB7
        obtain ⟨q0, q1, q2, q3, q4, q5⟩ := unhide HY7
        have HC := hide (msame_any b r1 s1 r2 s2 d1 e1 d2 e2 w7 (unhide HMY7).r1 (unhide HMY7).r2 ((unhide HMB).below (unhide HW7)).r1 ((unhide HMB).below (unhide HW7)).r2 (unhide HMB).m1 (unhide HMB).m2)
        unfold mval at HC
        go_wp2_with fail
        refine (unhide HC).mono ?_
        rintro e w8 ⟨rfl, hb8⟩
        have HW8 := hide (bstep (unhide HW7) hb8)
        clear hb8 HC HB7 HY7 HMY7 HW7 p0 p1 p2 p3 p4 p5 q0 q1 q2 q3 q4 q5
        go_wp2_with (go_at_call 9; refine (live_any C _).mono ?_; rintro e wl ⟨rfl, hbl⟩)
        go_ret
        exact ⟨rfl, bstep (unhide HW8) hbl⟩
end Go.Proofs.Ytknefgdcnacfoaa
