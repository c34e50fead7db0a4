/-
  The law CacheTrue, walked: it returns true, whatever comes in.
-/
import Derived.Test.YtemalidanjfmkaaNLive
import Derived.Test.YtemalidanjfmkaaUOne
import Derived.Test.YtemalidanjfmkaaK6
import Derived.Test.YtemalidanjfmkaaK5
import Derived.Test.YtemalidanjfmkaaArgLL
namespace Go.Proofs.Ytemalidanjfmkaa
open Go.RowKit

theorem run_ok {m : Mc} {u : List Int} (h : (mchV m).2 = 0) (hw : (wchV u m.k).2 = 0) : fromV m 0 u = ((goV m 0 u []).1, (goV m 0 u []).2, 0) :=
  fromV_ok h (Int.le_refl _) (by have := (right_of h).n0; omega) hw

set_option maxRecDepth 100000 in
set_option maxHeartbeats 8000000 in
theorem cacheTrue_walk (m : Mc) (a1 : Option Addr) (c1 : Nat) (a2 : Option Addr) (c2 : Nat) (al : Option Addr) (cl n : Nat) (A : Nat → Option Addr) (cp : Nat → Nat) (L : Nat → List Int) (aw : Option Addr) (cw : Nat) (wd : List Int) (w : World) (h0 : ArgM w m a1 c1 a2 c2) (h : ArgLL w al n A cp L) (hw : ArgL .i64 8 w aw cw wd) :
    Calls Try.prog 6 #[mval m a1 c1 a2 c2, .slice al n cl, .slice aw wd.length cw] w fun e w' => e = .returned (.bool true) ∧ Below w.heap.size w w' := by
  have B0 := ballo w (.cells #[.int .i64 m.kind, .int .i64 m.k, .int .i64 m.o, .int .i64 m.n, .slice a1 m.nx.length c1, .slice a2 m.out.length c2] 31)
  have X0 : Box (w.alloc (.cells #[.int .i64 m.kind, .int .i64 m.k, .int .i64 m.o, .int .i64 m.n, .slice a1 m.nx.length c1, .slice a2 m.out.length c2] 31)) w.heap.size m a1 c1 a2 c2 := Box.alloc w m a1 c1 a2 c2 31
  have hbg := big_any 60 m a1 c1 a2 c2 (w.alloc (.cells #[.int .i64 m.kind, .int .i64 m.k, .int .i64 m.o, .int .i64 m.n, .slice a1 m.nx.length c1, .slice a2 m.out.length c2] 31))
  unfold mval at hbg ⊢
  have HB0 := hide B0
  have HX0 := hide X0
  clear B0 X0
  go_enter Try.func6, Try.ntmps6
  go_wp2_with fail
  refine hbg.mono ?_
  rintro e w1 ⟨rfl, hb1⟩
  have HB1 := hide (bstep (unhide HB0) hb1)
  have HX1 := hide ((unhide HX0).below hb1)
  clear hbg HB0 HX0 hb1
  cases hbig : bigB 60 m
  rotate_left
  · clear hbig
    go_wp2_with (go_at_call 10; refine (live_any _).mono ?_; rintro e w9 ⟨rfl, hb9⟩)
    go_ret
    exact ⟨rfl, bstep (unhide HB1) hb9⟩
  have hbd : m.nx.length ≤ 70000 ∧ m.out.length ≤ 70000 := by
    unfold bigB at hbig
    have := of_decide_eq_false hbig
    omega
  clear hbig
  by_cases c9 : (n : Int) > 60
  · have t9 : decide ((n : Int) > 60) = true := decide_eq_true c9
    go_wp2_with (go_at_call 10; refine (live_any _).mono ?_; rintro e w9 ⟨rfl, hb9⟩)
    go_ret
    exact ⟨rfl, bstep (unhide HB1) hb9⟩
  have t9 : decide ((n : Int) > 60) = false := decide_eq_false c9
  have hri := right_any m a1 c1 a2 c2 w1 (h0.nx.rd.below (unhide HB1)) (h0.out.rd.below (unhide HB1)) (by unfold maxLen; omega) (by unfold maxLen; omega)
  unfold mval at hri
  have HBD := hide hbd
  clear hbd
  obtain ⟨n0, n1, n2, n3, n4, n5⟩ := unhide HX1
  go_wp2_with fail
  refine hri.mono ?_
  rintro e w2 ⟨rfl, hb2⟩
  have HB2 := hide (bstep (unhide HB1) hb2)
  have HX2 := hide ((unhide HX1).below hb2)
  clear hri HB1 HX1 hb2 n0 n1 n2 n3 n4 n5
  by_cases hz : (mchV m).2 = 0
  rotate_left
  · rw [show ((mchV m).2 == 0) = false from beq_eq_false_iff_ne.2 hz]
    clear hz
    go_wp2_with (go_at_call 10; refine (live_any _).mono ?_; rintro e w9 ⟨rfl, hb9⟩)
    go_ret
    exact ⟨rfl, bstep (unhide HB2) hb9⟩
  rw [show ((mchV m).2 == 0) = true from by rw [hz]; rfl]
  have HZ := hide hz
  clear hz
  by_cases c8 : (wd.length : Int) > 60
  · have t8 : decide ((wd.length : Int) > 60) = true := decide_eq_true c8
    go_wp2_with (go_at_call 10; refine (live_any _).mono ?_; rintro e w9 ⟨rfl, hb9⟩)
    go_ret
    exact ⟨rfl, bstep (unhide HB2) hb9⟩
  have t8 : decide ((wd.length : Int) > 60) = false := decide_eq_false c8
  have hnw := new_any m.kind m.k m.o 5000 w2
  obtain ⟨n0, n1, n2, n3, n4, n5⟩ := unhide HX2
  go_wp2_with fail
  refine hnw.mono ?_
  rintro e w3 ⟨hb3, hor⟩
  obtain ⟨b, g, cap, R, rfl, co3, hb, hg⟩ : ∃ b g cap R, e = .returned (.tuple #[.pointer (some ⟨b, 0, none⟩), .int .i64 0]) ∧ Co w2.heap.size w3 b g cap (newV m.kind m.k m.o 5000) R ∧ w2.heap.size ≤ b ∧ w2.heap.size ≤ g := by
    rcases hor with ⟨q, -⟩ | ⟨-, q⟩
    · exact absurd (tru_newE (unhide HZ)) q
    · exact q
  have HC3 := hide co3
  have HB3 := hide hb3
  have HZ2 := hide (show w.heap.size < w2.heap.size from World.block_lt_of_cell? _ _ (unhide HX2).p0)
  have HG3 := hide hg
  have HRN : Hid (∀ wx, Below w2.heap.size w2 wx → ∀ (a3 : Option Addr) (c3 : Nat) (u : List Int), RdL .i64 wx a3 u → u.length ≤ 60 → Calls Try.prog 30 #[.agg #[.int .i64 m.kind, .int .i64 m.k, .int .i64 m.o, .int .i64 m.n, .slice a1 m.nx.length c1, .slice a2 m.out.length c2], .slice a3 u.length c3] wx fun e w' => ∃ v, e = .returned (.tuple #[v, .int .i64 (fromV m 0 u).2.2]) ∧ OwnL .i64 3 w' wx.heap.size v (fromV m 0 u).2.1 ∧ Below wx.heap.size wx w') := fun wx hx a3 c3 u hu hl => by
    have hy := bstep (unhide HB2) hx
    have := rrun_any m a1 c1 a2 c2 a3 c3 u wx (h0.nx.rd.below hy) (h0.out.rd.below hy) hu (by have := unhide HBD; unfold maxLen; omega) (by have := unhide HBD; unfold maxLen; omega) (by unfold maxLen; omega)
    unfold mval at this
    exact this
  have HHL := hide h
  have HHW := hide hw.rd
  clear hnw hor co3 hb3 hg n0 n1 n2 n3 n4 n5 h h0 hw
  go_wp2_with (go_at_call 13; refine (num_any _ _).mono ?_; rintro e w' ⟨rfl, hw'⟩; subst w')
  go_loopw [9] (fun v wr => ∃ (t g' cap' : Nat) (c : Cs) (R' : List En), t ≤ n ∧ v = .int .i64 t ∧ Hid (Co w2.heap.size wr b g' cap' c R') ∧ Hid (w2.heap.size ≤ g') ∧ Hid (Tru m c) ∧ Hid (c.bg.length ≤ 1 + 61 * t) ∧ Below w2.heap.size w2 wr) (fun v _ => n - (intOf v).toNat)
  case atStart => exact ⟨0, g, cap, _, R, Nat.zero_le _, rfl, HC3, HG3, hide (Tru.new m), hide (Nat.le_refl 1), unhide HB3⟩
  case round =>
    obtain ⟨t, g', cap', c, R', ht, rfl, HC, HG, HT, HL, hB⟩ := hrel
    clear HC3 HG3 HB3
    by_cases hlt : t < n
    · have hlt' : (t : Int) < (n : Int) := by omega
      have hBw := bstep (unhide HB2) hB
      obtain ⟨tb, toff, rfl, htc⟩ := ((unhide HHL).top.below hBw).at hlt
      have hct := htc t hlt
      have hrt := (unhide HHL).row t hlt
      by_cases c7 : ((L t).length : Int) > 60
      · have t7 : decide (((L t).length : Int) > 60) = true := decide_eq_true c7
        clear htc hrt
        go_wp2_with (go_at_call 10; refine (live_any _).mono ?_; rintro e w9 ⟨rfl, hb9⟩)
        go_ret
        exact ⟨rfl, bstep hBw hb9⟩
      have t7 : decide (((L t).length : Int) > 60) = false := decide_eq_false c7
      have HRT := hide hrt
      have HBW := hide hBw
      have X3 := (unhide HX2).below hB
      obtain ⟨n0, n1, n2, n3, n4, n5⟩ := X3
      clear htc hrt hBw
      go_upto_region 11 with fail
      go_region_with (go_at_call 30; refine (unhide HRN _ hB.drew _ _ _ ((unhide HRT).below (unhide HBW).drew) (by omega)).mono ?_; rintro e w4 ⟨v4, rfl, ho4, hb4⟩)
      all_goals
        have hB4 : Below w2.heap.size w2 w4 := bstep hB.drew hb4
        have hb4' : Below wr.heap.size wr w4 := bstep (Below.refl _ _).drew hb4
        have hBw4 := bstep (unhide HB2) hB4
        have hct4 : w4.cell? ⟨tb, toff + t, none⟩ = some (.slice (A t) (L t).length (cp t)) := (hb4'.cell (World.block_lt_of_cell? _ _ hct)).trans hct
        obtain ⟨a5, c5, rfl, -, -, -, rd5, -⟩ := ho4.shape
        clear ho4 hct n0 n1 n2 n3 n4 n5 hb4
        by_cases zf : (fromV m 0 (L t)).2.2 = 0
        · have hwc := (fromV_zero zf).2.2.2
          have e1 : (fromV m 0 (L t)).2.1 = (goV m 0 (L t) []).2 := by rw [run_ok (unhide HZ) hwc]
          rw [e1] at rd5 ⊢
          rw [zf]
          have hol : (goV m 0 (L t) []).2.length ≤ 61 := by have := goV_most m (L t) 0 []; rw [List.length_nil] at this; omega
          obtain ⟨p0, p1, p2⟩ := Tru.put (unhide HZ) (unhide HT) hwc (by omega) (by have := unhide HL; omega)
          have hpu := put_gen (A t) (cp t) (L t) a5 c5 (goV m 0 (L t) []).2 ((unhide HC).below hb4') ((unhide HRT).below hBw4) rd5 (by unfold maxLen; omega) (by unfold maxLen; omega) (fun hz x ex => by
            obtain ⟨b', off', e', hc'⟩ := (unhide HRT).at (i := 0) (by omega)
            cases ex.symm.trans e'
            have q1 : b' < w.heap.size := World.block_lt_of_cell? w _ (hc' 0 (by omega))
            have q2 := unhide HZ2
            have q3 := unhide HG
            have q4 := hB4.size
            refine ⟨?_, ?_, ?_⟩
            · show b' < _; omega
            · show b' ≠ _; omega
            · show b' ≠ _; omega) hB4.size
          have HP0 := hide p0
          have HP1 := hide p1
          have HP2 := hide p2
          have HB4 := hide hB4
          have HOL := hide hol
          clear zf hwc e1 p0 p1 p2 rd5 hb4' hBw4 hB4 hol hB
          go_wp2_with (first | (go_at_call 13; refine (num_any _ _).mono ?_; rintro e w' ⟨rfl, hw'⟩; subst w') | fail)
          refine hpu.mono ?_
          rintro e w5 ⟨rfl, g5, cap5, R5, co5, bx5, hg5⟩
          rw [unhide HP0]
          have HB5 : Hid (Below w2.heap.size w2 w5) := (unhide HB4).trans (bx5.below (fun k hk => by rcases hk with q | q; · omega
                                                                                                     · have := unhide HG; omega) (unhide HB4).size)
          have HG5 : Hid (w2.heap.size ≤ g5) := by
            rcases hg5 with q | q
            · rw [q]; exact unhide HG
            · exact Nat.le_trans (unhide HB4).size q
          have HC5 := hide co5
          clear hpu bx5 hg5 co5 hct4
          go_wp2_with (go_at_call 13; refine (num_any _ _).mono ?_; rintro e w' ⟨rfl, hw'⟩; subst w')
          go_roundw
          case rel => exact ⟨t + 1, g5, cap5, _, R5, by omega, by go_num, HC5, HG5, HP1, hide (by have := unhide HP2; have := unhide HL; omega), unhide HB5⟩
          case measure => simp [intOf]; omega
        · have HC4 := hide ((unhide HC).below hb4')
          obtain ⟨F, hF⟩ : ∃ F, F = (fromV m 0 (L t)).2.2 := ⟨_, rfl⟩
          rw [← hF] at zf ⊢
          have zf' : (F == 0) = false := beq_eq_false_iff_ne.2 zf
          obtain ⟨K, hK⟩ : ∃ K, K = (fromV m 0 (L t)).2.1.length := ⟨_, rfl⟩
          rw [← hK]
          clear rd5 hb4' hBw4 hB hF hK
          go_wp2
          go_roundw
          case rel => exact ⟨t + 1, g', cap', c, R', by omega, by go_num, HC4, HG, HT, hide (by have := unhide HL; omega), hB4⟩
          case measure => simp [intOf]; omega
    · obtain rfl : t = n := by omega
      have hBw := bstep (unhide HB2) hB
      have T := unhide HT
      have hgt := get_any aw cw wd (unhide HC) ((unhide HHW).below hBw) (by omega) (by rw [T.h0]; decide) (by rw [T.h0]; decide) (by rw [T.m0]; decide) (by rw [T.m0]; decide)
      clear T hBw
      go_wp2_with fail
      refine hgt.mono ?_
      rintro e w4 ⟨-, bx4, v4, rfl, ho4⟩
      have hB4 : Below w2.heap.size w2 w4 := hB.trans (bx4.below (fun k hk => by cases hk; exact hb) hB.size)
      have hBw4 := bstep (unhide HB2) hB4
      have hrn := unhide HRN w4 hB4 aw cw wd ((unhide HHW).below hBw4) (by omega)
      have X3 := (unhide HX2).below hB4
      obtain ⟨n0, n1, n2, n3, n4, n5⟩ := X3
      have HO4 := hide ho4
      clear hgt bx4 hB ho4
      go_wp2_with fail
      refine hrn.mono ?_
      rintro e w5 ⟨v5, rfl, ho5, hb5⟩
      have HB5 := hide (bstep hBw4 hb5)
      have HR5 := hide hb5
      clear hrn n0 n1 n2 n3 n4 n5 hB4 hBw4 hb5
      cases hf : findV c wd with
      | none =>
        rw [show (none : Option (List Int)).isSome = false from rfl]
        clear ho5 hf
        go_wp2_with (go_at_call 10; refine (live_any _).mono ?_; rintro e w9 ⟨rfl, hb9⟩)
        go_ret
        exact ⟨rfl, bstep (unhide HB5) hb9⟩
      | some y =>
        rw [show (some y : Option (List Int)).isSome = true from rfl]
        have HO := unhide HO4
        rw [hf] at HO
        obtain ⟨y1, y2, y3⟩ := (unhide HT).tr wd y hf
        have Rm := right_of (unhide HZ)
        have hwc : (wchV wd m.k).2 = 0 := (wch_iff Rm.k0 Rm.k1 y2).2 y1
        have hfr := run_ok (unhide HZ) hwc
        have e1 : (fromV m 0 wd).2.1 = y := by rw [hfr, y3]
        have e2 : (fromV m 0 wd).2.2 = 0 := by rw [hfr]
        rw [e1] at ho5
        rw [e2]
        obtain ⟨a6, c6, rfl, -, -, -, rd6, -⟩ := OwnL.shape (l := y) HO
        obtain ⟨a7, c7, rfl, -, -, -, rd7, -⟩ := ho5.shape
        have hsm := same_list a6 a7 c6 c7 y y w5 (rd6.below (unhide HR5)) rd7 (by rw [y3]; have := goV_most m wd 0 []; rw [List.length_nil] at this; unfold maxLen; omega)
        rw [decide_eq_true rfl] at hsm
        clear HO HO4 HR5 ho5 hf y1 y2 y3 Rm hwc hfr e1 e2 rd6 rd7
        generalize y.length = Y at *
        go_wp2_with (first | (go_at_call 19; refine hsm.mono ?_; rintro e w6 ⟨rfl, hb6⟩) | (go_at_call 10; refine (live_any _).mono ?_; rintro e w9 ⟨rfl, hb9⟩))
        go_ret
        exact ⟨rfl, bstep (bstep (unhide HB5) hb6) hb9⟩
end Go.Proofs.Ytemalidanjfmkaa
