/-
  The law DifferFirst, walked: it returns true, whatever the input.
-/
import Derived.Test.YtknefgdcnacfoaaEStates
import Derived.Test.YtknefgdcnacfoaaK16
import Derived.Test.YtknefgdcnacfoaaK6
import Derived.Test.YtknefgdcnacfoaaTQuiet
import Derived.Test.YtknefgdcnacfoaaK5
namespace Go.Proofs.Ytknefgdcnacfoaa
open Go.RowKit

theorem wch_iff {k : Int} (k0 : 1 ≤ k) (k1 : k ≤ 64) {l : List Int} (hl : l.length ≤ 4096) : (wchV l k).2 = 0 ↔ Wrd k l := by
  constructor
  · intro h x hx
    obtain ⟨_, _, _, hd⟩ := word_of_chk h
    obtain ⟨p, hp, rfl⟩ := mem_gd hx
    exact hd p hp
  · intro h
    unfold wchV
    rw [chkV_ok k0 k1 hl fun j hj => bad_no (h _ (gd_mem hj)).1 (h _ (gd_mem hj)).2]
theorem run_word {m : Mc} (hz : (mchV m).2 = 0) {l : List Int} (h : (wchV l m.k).2 = 0) : fromV m 0 l = ((goV m 0 l []).1, (goV m 0 l []).2, 0) := fromV_ok hz (Int.le_refl _) (by have := (right_of hz).n0; omega) h
theorem run_bad {m : Mc} (hz : (mchV m).2 = 0) {l : List Int} (h : (wchV l m.k).2 ≠ 0) : fromV m 0 l = (0, [], (wchV l m.k).2) := fromV_word hz (Int.le_refl _) (by have := (right_of hz).n0; omega) h

set_option maxRecDepth 100000 in
set_option maxHeartbeats 4000000 in
theorem differFirst_walkC (C : DCtr) (a : Mc) (a1 : Option Addr) (c1 : Nat) (a2 : Option Addr) (c2 : Nat) (b : Mc) (d1 : Option Addr) (e1 : Nat) (d2 : Option Addr) (e2 : Nat) (a3 : Option Addr) (c3 : Nat) (x : List Int) (w : World) (h0 : ArgM w a a1 c1 a2 c2) (g0 : ArgM w b d1 e1 d2 e2) (x0 : ArgL .i64 8 w a3 c3 x) :
    Calls Try.prog 6 #[mval a a1 c1 a2 c2, mval b d1 e1 d2 e2, .slice a3 x.length c3] w fun e w' => e = .returned (.bool true) ∧ Below w.heap.size w w' := by
  obtain ⟨w0, hw0⟩ : ∃ w0, w0 = (w.alloc (.cells #[.int .i64 a.kind, .int .i64 a.k, .int .i64 a.o, .int .i64 a.n, .slice a1 a.nx.length c1, .slice a2 a.out.length c2] 24)).alloc (.cells #[.int .i64 b.kind, .int .i64 b.k, .int .i64 b.o, .int .i64 b.n, .slice d1 b.nx.length e1, .slice d2 b.out.length e2] 24) := ⟨_, rfl⟩
  have b0 : Below w.heap.size w w0 := by rw [hw0]; exact bstep (ballo _ _) (ballo _ _)
  have A0 : Box w0 w.heap.size a a1 c1 a2 c2 := by rw [hw0]; exact (Box.alloc w a a1 c1 a2 c2 24).below (ballo _ _)
  have B0 : Box w0 (w.heap.size + 1) b d1 e1 d2 e2 := by
    have := Box.alloc (w.alloc (.cells #[.int .i64 a.kind, .int .i64 a.k, .int .i64 a.o, .int .i64 a.n, .slice a1 a.nx.length c1, .slice a2 a.out.length c2] 24)) b d1 e1 d2 e2 24
    rw [hw0]
    simp only [World.size_alloc] at this
    exact this
  have HC := hide (big_any 60 a a1 c1 a2 c2 w0)
  unfold mval at HC ⊢
  have HA := hide A0
  have HB := hide B0
  have HW : Hid (Below w.heap.size w w0) := b0
  clear A0 B0 b0
  go_enter Try.func6, Try.ntmps6
  go_wp2_with fail
  rw [← hw0]
  refine (unhide HC).mono ?_
  rintro e w1 ⟨rfl, hb1⟩
  have HW1 := hide (bstep (unhide HW) hb1)
  have HA1 := hide ((unhide HA).below hb1)
  have HB1 := hide ((unhide HB).below hb1)
  clear HC HA HB HW hw0 hb1
  cases hbig : bigB 60 a
  rotate_left
  · clear hbig
    go_wp2_with (go_at_call 9; refine (live_any C _).mono ?_; rintro e wl ⟨rfl, hbl⟩)
    go_ret
    exact ⟨rfl, bstep (unhide HW1) hbl⟩
  obtain ⟨na, ln, lo⟩ := big_bounds hbig
  have HMA := hide (h0.ma ln lo (by omega))
  have HNA := hide na
  clear hbig na
  obtain ⟨q0, q1, q2, q3, q4, q5⟩ := unhide HB1
  have HC := hide (big_any 60 b d1 e1 d2 e2 w1)
  unfold mval at HC
  go_wp2_with fail
  refine (unhide HC).mono ?_
  rintro e w2 ⟨rfl, hb2⟩
  have HW2 := hide (bstep (unhide HW1) hb2)
  have HA2 := hide ((unhide HA1).below hb2)
  have HB2 := hide ((unhide HB1).below hb2)
  clear q0 q1 q2 q3 q4 q5 HC HA1 HB1 HW1 hb2
  cases hbig : bigB 60 b
  rotate_left
  · clear hbig
    go_wp2_with (go_at_call 9; refine (live_any C _).mono ?_; rintro e wl ⟨rfl, hbl⟩)
    go_ret
    exact ⟨rfl, bstep (unhide HW2) hbl⟩
  obtain ⟨nb, kn, ko⟩ := big_bounds hbig
  have HMB := hide (g0.ma kn ko (by omega))
  have HNB := hide nb
  clear hbig nb
  by_cases hxl : 2000 < x.length
  · have hxl' : (2000 : Int) < (x.length : Int) := by omega
    go_wp2_with (go_at_call 9; refine (live_any C _).mono ?_; rintro e wl ⟨rfl, hbl⟩)
    go_ret
    exact ⟨rfl, bstep (unhide HW2) hbl⟩
  have hxl' : ¬ (2000 : Int) < (x.length : Int) := by omega
  have hx4 : x.length ≤ 4096 := by omega
  have hxm : x.length ≤ maxLen := by unfold maxLen; omega
  obtain ⟨p0, p1, p2, p3, p4, p5⟩ := unhide HA2
  obtain ⟨q0, q1, q2, q3, q4, q5⟩ := unhide HB2
  obtain ⟨o, ho⟩ := se_ex a b
  have HO := hide ho
  have HC := hide (C.sep a b a1 c1 a2 c2 d1 e1 d2 e2 w2 o ((unhide HMA).below (unhide HW2)) ((unhide HMB).below (unhide HW2)) ho)
  unfold mval at HC
  clear ho
  by_cases hE : seE a b = 0
  rotate_left
  · have hon := (unhide HO).2 hE
    subst hon
    have tE := ne_bne' hE
    clear hE
    generalize seE a b = E at *
    go_wp2_with fail
    refine (unhide HC).mono ?_
    rintro e w3 ⟨v, rfl, hv, hb3⟩
    have hv : OwnL .i64 3 w3 w2.heap.size v [] := hv
    obtain ⟨av, cv, ev, -, -, -, -, -⟩ := hv.shape
    subst ev
    have b3 := bstep (unhide HW2) hb3
    clear hv hb3 HC
    go_wp2_with (first | (go_at_call 15; refine (num_any _ _).mono ?_; rintro e w' ⟨rfl, hw'⟩; subst w') | (go_at_call 9; refine (live_any C _).mono ?_; rintro e wl ⟨rfl, hbl⟩))
    go_ret
    exact ⟨rfl, bstep b3 hbl⟩
  have hse := (unhide HO).1 hE
  have hzz := seE_zero hE
  rw [hE] at HC
  have HSE := hide hse
  have HZZ := hide hzz
  have R := right_of hzz.1
  have HKK : Hid (1 ≤ a.k ∧ a.k ≤ 64) := ⟨R.k0, R.k1⟩
  clear hse hzz hE R
  go_wp2_with fail
  refine (unhide HC).mono ?_
  rintro e w3 ⟨v, rfl, hv, hb3⟩
  obtain ⟨av, cv, ev, -, lv, mv, rv, -⟩ := hv.shape
  subst ev
  have HW3 := hide (bstep (unhide HW2) hb3)
  have HA3 := hide ((unhide HA2).below hb3)
  have HB3 := hide ((unhide HB2).below hb3)
  have hml : (o.getD []).length ≤ maxLen := by omega
  clear hv hb3 HC p0 p1 p2 p3 p4 p5 q0 q1 q2 q3 q4 q5 lv mv HW2 HA2 HB2
  cases o with
  | none =>
    clear rv
    obtain ⟨p0, p1, p2, p3, p4, p5⟩ := unhide HA3
    have HC := hide (rrun_any a a1 c1 a2 c2 a3 c3 x w3 (((unhide HMA).below (unhide HW3)).r1) (((unhide HMA).below (unhide HW3)).r2) (x0.rd.below (unhide HW3)) (unhide HMA).m1 (unhide HMA).m2 hxm)
    unfold mval at HC
    by_cases hw : (wchV x a.k).2 = 0
    rotate_left
    · have hw2 : (wchV x b.k).2 ≠ 0 := by rw [← (unhide HZZ).2.2.2.1]; exact hw
      have ra := run_bad (unhide HZZ).1 hw
      have rb := run_bad (unhide HZZ).2.1 hw2
      rw [ra] at HC
      have tE := ne_bne' hw
      have HRB := hide rb
      clear hw hw2 ra rb
      generalize (wchV x a.k).2 = E at *
      go_wp2_with (go_at_call 15; refine (num_any _ _).mono ?_; rintro e w' ⟨rfl, hw'⟩; subst w')
      refine (unhide HC).mono ?_
      rintro e w4 ⟨v, rfl, hv, hb⟩
      have hv : OwnL .i64 3 w4 w3.heap.size v [] := hv
      obtain ⟨av1, cv1, ev, -, -, -, -, -⟩ := hv.shape
      subst ev
      have HW4 := hide (bstep (unhide HW3) hb)
      have HB4 := hide ((unhide HB3).below hb)
      clear hv hb HC p0 p1 p2 p3 p4 p5
      obtain ⟨q0, q1, q2, q3, q4, q5⟩ := unhide HB4
      have HC := hide (rrun_any b d1 e1 d2 e2 a3 c3 x w4 (((unhide HMB).below (unhide HW4)).r1) (((unhide HMB).below (unhide HW4)).r2) (x0.rd.below (unhide HW4)) (unhide HMB).m1 (unhide HMB).m2 hxm)
      unfold mval at HC
      rw [unhide HRB] at HC
      generalize (wchV x b.k).2 = E2 at *
      go_wp2_with fail
      refine (unhide HC).mono ?_
      rintro e w5 ⟨v, rfl, hv, hb⟩
      have hv : OwnL .i64 3 w5 w4.heap.size v [] := hv
      obtain ⟨av2, cv2, ev, -, -, -, -, -⟩ := hv.shape
      subst ev
      have b9 := bstep (unhide HW4) hb
      clear hv hb HC q0 q1 q2 q3 q4 q5
      dsimp only
      go_wp2_with (go_at_call 9; refine (live_any C _).mono ?_; rintro e wl ⟨rfl, hbl⟩)
      go_ret
      exact ⟨rfl, bstep b9 hbl⟩
    have hw2 : (wchV x b.k).2 = 0 := by rw [← (unhide HZZ).2.2.2.1]; exact hw
    have HWX : Hid (Wrd a.k x) := (wch_iff (unhide HKK).1 (unhide HKK).2 hx4).1 hw
    have ra := run_word (unhide HZZ).1 hw
    have rb := run_word (unhide HZZ).2.1 hw2
    rw [ra] at HC
    have HRB := hide rb
    clear hw hw2 ra rb
    go_wp2_with (go_at_call 15; refine (num_any _ _).mono ?_; rintro e w' ⟨rfl, hw'⟩; subst w')
    refine (unhide HC).mono ?_
    rintro e w4 ⟨v, rfl, hv, hb⟩
    have hv : OwnL .i64 3 w4 w3.heap.size v (goV a 0 x []).2 := hv
    obtain ⟨av1, cv1, ev, -, l1, m1, rv1, -⟩ := hv.shape
    subst ev
    have hm1 : (goV a 0 x []).2.length ≤ maxLen := by omega
    have HW4 := hide (bstep (unhide HW3) hb)
    have HB4 := hide ((unhide HB3).below hb)
    clear hv hb HC p0 p1 p2 p3 p4 p5 l1 m1
    obtain ⟨q0, q1, q2, q3, q4, q5⟩ := unhide HB4
    have HC := hide (rrun_any b d1 e1 d2 e2 a3 c3 x w4 (((unhide HMB).below (unhide HW4)).r1) (((unhide HMB).below (unhide HW4)).r2) (x0.rd.below (unhide HW4)) (unhide HMB).m1 (unhide HMB).m2 hxm)
    unfold mval at HC
    rw [unhide HRB] at HC
    dsimp only
    go_wp2_with fail
    refine (unhide HC).mono ?_
    rintro e w5 ⟨v, rfl, hv, hb⟩
    have hv : OwnL .i64 3 w5 w4.heap.size v (goV b 0 x []).2 := hv
    obtain ⟨av2, cv2, ev, -, -, -, rv2, -⟩ := hv.shape
    subst ev
    have HW5 := hide (bstep (unhide HW4) hb)
    have rv1 := rv1.below hb
    clear hv hb HC q0 q1 q2 q3 q4 q5
    dsimp only
    have HS := hide (same_list av1 av2 cv1 cv2 (goV a 0 x []).2 (goV b 0 x []).2 w5 rv1 rv2 hm1)
    by_cases hq : (goV a 0 x []).2 = (goV b 0 x []).2
    · rw [decide_eq_true hq] at HS
      clear hq
      generalize (goV a 0 x []).2 = pa at *
      generalize (goV b 0 x []).2 = pb at *
      go_wp2_with fail
      refine (unhide HS).mono ?_
      rintro e w6 ⟨rfl, hb⟩
      have b9 := bstep (unhide HW5) hb
      go_wp2_with (go_at_call 9; refine (live_any C _).mono ?_; rintro e wl ⟨rfl, hbl⟩)
      go_ret
      exact ⟨rfl, bstep b9 hbl⟩
    exact absurd hq (fun c => unhide HSE x (unhide HWX) c)
  | some l =>
    have rv : RdL .i64 w3 av l := rv
    have hml : l.length ≤ maxLen := hml
    have HIS : Hid (IsF a b 0 0 l) := unhide HSE
    have HLN : Hid ((l.length : Int) < a.n + b.n) := sep_two (right_of (unhide HZZ).1) (right_of (unhide HZZ).2.1) (unhide HZZ).2.2.1.symm (unhide HZZ).2.2.2.1.symm (unhide HZZ).2.2.2.2.symm (by have := unhide HNA; have := unhide HNB; omega) (Int.le_refl _) (by have := (right_of (unhide HZZ).1).n0; omega) (Int.le_refl _) (by have := (right_of (unhide HZZ).2.1).n0; omega) (unhide HIS)
    have hl4 : l.length ≤ 4096 := by have := unhide HLN; have := unhide HNA; have := unhide HNB; omega
    have hwl : (wchV l a.k).2 = 0 := (wch_iff (unhide HKK).1 (unhide HKK).2 hl4).2 (unhide HIS).wd
    have hwl2 : (wchV l b.k).2 = 0 := by rw [← (unhide HZZ).2.2.2.1]; exact hwl
    have ra := run_word (unhide HZZ).1 hwl
    have rb := run_word (unhide HZZ).2.1 hwl2
    have HC := hide (rrun_any a a1 c1 a2 c2 av cv l w3 (((unhide HMA).below (unhide HW3)).r1) (((unhide HMA).below (unhide HW3)).r2) rv (unhide HMA).m1 (unhide HMA).m2 hml)
    unfold mval at HC
    rw [ra] at HC
    have HRB := hide rb
    clear hwl hwl2 ra rb
    obtain ⟨p0, p1, p2, p3, p4, p5⟩ := unhide HA3
    go_wp2_with (go_at_call 15; refine (num_any _ _).mono ?_; rintro e w' ⟨rfl, hw'⟩; subst w')
    refine (unhide HC).mono ?_
    rintro e w4 ⟨v, rfl, hv, hb⟩
    have hv : OwnL .i64 3 w4 w3.heap.size v (goV a 0 l []).2 := hv
    obtain ⟨av1, cv1, ev, -, l1, m1, rv1, -⟩ := hv.shape
    subst ev
    have hm1 : (goV a 0 l []).2.length ≤ maxLen := by omega
    have HW4 := hide (bstep (unhide HW3) hb)
    have HA4 := hide ((unhide HA3).below hb)
    have HB4 := hide ((unhide HB3).below hb)
    have rv := rv.below hb
    clear hv hb HC p0 p1 p2 p3 p4 p5 l1 m1
    obtain ⟨q0, q1, q2, q3, q4, q5⟩ := unhide HB4
    have HC := hide (rrun_any b d1 e1 d2 e2 av cv l w4 (((unhide HMB).below (unhide HW4)).r1) (((unhide HMB).below (unhide HW4)).r2) rv (unhide HMB).m1 (unhide HMB).m2 hml)
    unfold mval at HC
    rw [unhide HRB] at HC
    dsimp only
    go_wp2_with fail
    refine (unhide HC).mono ?_
    rintro e w5 ⟨v, rfl, hv, hb⟩
    have hv : OwnL .i64 3 w5 w4.heap.size v (goV b 0 l []).2 := hv
    obtain ⟨av2, cv2, ev, -, -, -, rv2, -⟩ := hv.shape
    subst ev
    have HW5 := hide (bstep (unhide HW4) hb)
    have HA5 := hide ((unhide HA4).below hb)
    have HB5 := hide ((unhide HB4).below hb)
    have rv1 := rv1.below hb
    have rv := rv.below hb
    clear hv hb HC q0 q1 q2 q3 q4 q5 HA4 HB4
    dsimp only
    have HS := hide (same_list av1 av2 cv1 cv2 (goV a 0 l []).2 (goV b 0 l []).2 w5 rv1 rv2 hm1)
    rw [decide_eq_false (unhide HIS).tl] at HS
    generalize (goV a 0 l []).2 = pa at *
    generalize (goV b 0 l []).2 = pb at *
    go_wp2_with fail
    refine (unhide HS).mono ?_
    rintro e w6 ⟨rfl, hb⟩
    have HW6 := hide (bstep (unhide HW5) hb)
    have HA6 := hide ((unhide HA5).below hb)
    have HB6 := hide ((unhide HB5).below hb)
    have rv := rv.below hb
    clear hb HS rv1 rv2 hm1 HW4 HW5 HA5 HB5 HRB
    obtain ⟨p0, p1, p2, p3, p4, p5⟩ := unhide HA6
    obtain ⟨q0, q1, q2, q3, q4, q5⟩ := unhide HB6
    have tL : ¬ (a.n + b.n ≤ (l.length : Int)) := by have := unhide HLN; omega
    have nn1 := unhide HNA
    have nn2 := unhide HNB
    have nn3 : 1 ≤ a.n := (right_of (unhide HZZ).1).n0
    have nn4 : 1 ≤ b.n := (right_of (unhide HZZ).2.1).n0
    have HC := hide (rrun_any a a1 c1 a2 c2 a3 c3 x w6 (((unhide HMA).below (unhide HW6)).r1) (((unhide HMA).below (unhide HW6)).r2) (x0.rd.below (unhide HW6)) (unhide HMA).m1 (unhide HMA).m2 hxm)
    unfold mval at HC
    by_cases hw : (wchV x a.k).2 = 0
    rotate_left
    · have hw2 : (wchV x b.k).2 ≠ 0 := by rw [← (unhide HZZ).2.2.2.1]; exact hw
      have ra := run_bad (unhide HZZ).1 hw
      have rb := run_bad (unhide HZZ).2.1 hw2
      rw [ra] at HC
      have tE := ne_bne' hw
      have HRB := hide rb
      clear hw hw2 ra rb
      generalize (wchV x a.k).2 = E at *
      go_wp2_with fail
      refine (unhide HC).mono ?_
      rintro e w7 ⟨v, rfl, hv, hb⟩
      have hv : OwnL .i64 3 w7 w6.heap.size v [] := hv
      obtain ⟨av1, cv1, ev, -, -, -, -, -⟩ := hv.shape
      subst ev
      have HW7 := hide (bstep (unhide HW6) hb)
      have HB7 := hide ((unhide HB6).below hb)
      clear hv hb HC p0 p1 p2 p3 p4 p5
      obtain ⟨q0, q1, q2, q3, q4, q5⟩ := unhide HB7
      have HC := hide (rrun_any b d1 e1 d2 e2 a3 c3 x w7 (((unhide HMB).below (unhide HW7)).r1) (((unhide HMB).below (unhide HW7)).r2) (x0.rd.below (unhide HW7)) (unhide HMB).m1 (unhide HMB).m2 hxm)
      unfold mval at HC
      rw [unhide HRB] at HC
      generalize (wchV x b.k).2 = E2 at *
      go_wp2_with fail
      refine (unhide HC).mono ?_
      rintro e w8 ⟨v, rfl, hv, hb⟩
      have hv : OwnL .i64 3 w8 w7.heap.size v [] := hv
      obtain ⟨av2, cv2, ev, -, -, -, -, -⟩ := hv.shape
      subst ev
      have b9 := bstep (unhide HW7) hb
      clear hv hb HC q0 q1 q2 q3 q4 q5
      dsimp only
      go_wp2_with (go_at_call 9; refine (live_any C _).mono ?_; rintro e wl ⟨rfl, hbl⟩)
      go_ret
      exact ⟨rfl, bstep b9 hbl⟩
    have hw2 : (wchV x b.k).2 = 0 := by rw [← (unhide HZZ).2.2.2.1]; exact hw
    have HWX : Hid (Wrd a.k x) := (wch_iff (unhide HKK).1 (unhide HKK).2 hx4).1 hw
    have ra := run_word (unhide HZZ).1 hw
    have rb := run_word (unhide HZZ).2.1 hw2
    rw [ra] at HC
    have HRB := hide rb
    clear hw hw2 ra rb
    go_wp2_with fail
    refine (unhide HC).mono ?_
    rintro e w7 ⟨v, rfl, hv, hb⟩
    have hv : OwnL .i64 3 w7 w6.heap.size v (goV a 0 x []).2 := hv
    obtain ⟨av1, cv1, ev, -, l1, m1, rv1, -⟩ := hv.shape
    subst ev
    have hm1 : (goV a 0 x []).2.length ≤ maxLen := by omega
    have HW7 := hide (bstep (unhide HW6) hb)
    have HB7 := hide ((unhide HB6).below hb)
    have rv := rv.below hb
    clear hv hb HC p0 p1 p2 p3 p4 p5 l1 m1
    obtain ⟨q0, q1, q2, q3, q4, q5⟩ := unhide HB7
    have HC := hide (rrun_any b d1 e1 d2 e2 a3 c3 x w7 (((unhide HMB).below (unhide HW7)).r1) (((unhide HMB).below (unhide HW7)).r2) (x0.rd.below (unhide HW7)) (unhide HMB).m1 (unhide HMB).m2 hxm)
    unfold mval at HC
    rw [unhide HRB] at HC
    dsimp only
    go_wp2_with fail
    refine (unhide HC).mono ?_
    rintro e w8 ⟨v, rfl, hv, hb⟩
    have hv : OwnL .i64 3 w8 w7.heap.size v (goV b 0 x []).2 := hv
    obtain ⟨av2, cv2, ev, -, -, -, rv2, -⟩ := hv.shape
    subst ev
    have HW8 := hide (bstep (unhide HW7) hb)
    have rv1 := rv1.below hb
    have rv := rv.below hb
    clear hv hb HC q0 q1 q2 q3 q4 q5
    dsimp only
    have HS := hide (same_list av1 av2 cv1 cv2 (goV a 0 x []).2 (goV b 0 x []).2 w8 rv1 rv2 hm1)
    by_cases hq : (goV a 0 x []).2 = (goV b 0 x []).2
    · rw [decide_eq_true hq] at HS
      clear hq
      generalize (goV a 0 x []).2 = pa at *
      generalize (goV b 0 x []).2 = pb at *
      go_wp2_with fail
      refine (unhide HS).mono ?_
      rintro e w9 ⟨rfl, hb⟩
      have b9 := bstep (unhide HW8) hb
      go_wp2_with (go_at_call 9; refine (live_any C _).mono ?_; rintro e wl ⟨rfl, hbl⟩)
      go_ret
      exact ⟨rfl, bstep b9 hbl⟩
    have HAH : Hid (ahdL x l = false) := ahdL_no ((unhide HSE).fst x (unhide HWX) hq)
    rw [decide_eq_false hq] at HS
    clear hq
    generalize (goV a 0 x []).2 = pa at *
    generalize (goV b 0 x []).2 = pb at *
    go_wp2_with fail
    refine (unhide HS).mono ?_
    rintro e w9 ⟨rfl, hb⟩
    have HW9 := hide (bstep (unhide HW8) hb)
    have HH := hide (ahead_l a3 av c3 cv x l w9 (x0.rd.below (unhide HW9)) (rv.below hb) hxm hml)
    rw [unhide HAH] at HH
    go_wp2_with fail
    refine (unhide HH).mono ?_
    rintro e w10 ⟨rfl, qn, hdr⟩
    subst hdr
    have b9 := below_drewN (unhide HW9) qn
    go_wp2_with (go_at_call 9; refine (live_any C _).mono ?_; rintro e wl ⟨rfl, hbl⟩)
    go_ret
    exact ⟨rfl, bstep b9 hbl⟩
end Go.Proofs.Ytknefgdcnacfoaa
