/-
  Some texts of this seat, one behind the other.
-/
import Derived.Test.YtoiogggibfmncaaK1
import Derived.Test.YtoiogggibfmncaaK10
import Derived.Test.YtoiogggibfmncaaK9
/-
  What the program's split and splitWholly return.
-/
namespace Go.Proofs.Ytoiogggibfmncaa
open Go.RowKit Go.Maps

/-- What split leaves: the classes after r rounds, r of them made. -/
def SpPost (m : Mc) (most : Int) (w : World) (e : Ending) (w' : World) : Prop :=
  ∃ v r, e = .returned (.tuple #[v, .int .i64 (r : Nat)]) ∧ OwnL .i64 3 w' w.heap.size v (aftL m r) ∧ (r : Int) ≤ most ∧ ((r : Int) = most ∨ Still m r) ∧ (∀ j, j < r → ¬ Still m j) ∧ Below w.heap.size w w'

set_option maxHeartbeats 2000000 in
theorem split_any (m : Mc) (a1 : Option Addr) (c1 : Nat) (a2 : Option Addr) (c2 : Nat) (most : Int) (w : World) (R : Right m) (o1 : m.o ≤ 64) (h1 : RdL .i64 w a1 m.nx) (h2 : RdL .i64 w a2 m.out) (hc2 : m.out.length ≤ c2) (m0 : 0 ≤ most) (m1 : most ≤ 9223372036854775807) :
    Calls Try.prog 27 #[mval m a1 c1 a2 c2, .int .i64 most] w fun e w' => SpPost m most w e w' := by
  unfold mval
  have b0 := ballo w (.cells #[.int .i64 m.kind, .int .i64 m.k, .int .i64 m.o, .int .i64 m.n, .slice a1 m.nx.length c1, .slice a2 m.out.length c2] 24)
  have B0 := Box.alloc w m a1 c1 a2 c2 24
  have n0 := R.n0
  have n1 := R.n1
  have HR := hide R
  have HLA := hide (aft_len m)
  clear R
  go_enter Try.func27, Try.ntmps27
  go_wp2_with fail
  refine (firstRows_any m a1 c1 a2 c2 _ (unhide HR) o1 (h2.below b0)).mono ?_
  rintro e w1 ⟨v, rfl, hv, hb1⟩
  obtain ⟨g, cap, rfl, -, -, hg1, hg2, hRows, -⟩ := hv.pos (by omega)
  have b1 := bstep b0 hb1
  have B1 := B0.below hb1
  obtain ⟨q0, q1, q2, q3, q4, q5⟩ := id B1
  clear hv
  go_wp2_with fail
  refine (grouped_any g cap m.n.toNat (F0 m) w1 hRows (fun s hs => fit_first (unhide HR) o1 hs) (by omega) (by omega) hg2).mono ?_
  rintro e w2 ⟨v, rfl, hv, hb2⟩
  rw [cl_first] at hv
  have b2 := bstep b1 hb2
  have B2 := B1.below hb2
  have hz : w.heap.size ≤ w1.heap.size := b1.size
  have HV := hide (hv.mono hz)
  have HB := hide b2
  obtain ⟨bx, hbx⟩ : ∃ bx, bx = w.heap.size := ⟨_, rfl⟩
  have HBB := hide B2
  clear q0 q1 q2 q3 q4 q5 hRows hv hb2 hb1 b0 b1 b2 B0 B1 hg1 hg2 hbx bx B2
  go_wp2
  go_loopw [4, 5] (fun v a wx => ∃ r : Nat, a = .int .i64 r ∧ (r : Int) ≤ most ∧ Hid (∀ j, j < r → ¬ Still m j) ∧ OwnL .i64 3 wx w.heap.size v (aftL m r) ∧ Box wx w.heap.size m a1 c1 a2 c2 ∧ Below w.heap.size w wx) (fun _ a _ => m.n.toNat - (intOf a).toNat)
  case atStart => exact ⟨0, rfl, m0, hide (fun j hj => by omega), unhide HV, unhide HBB, unhide HB⟩
  case round =>
    obtain ⟨r, rfl, hr, HN, hv, hB, hb⟩ := hrel
    clear HV HBB HB
    have HB := hide hb
    have HBB := hide hB
    have hrd := rd_le n0 (unhide HN)
    have hr1 : r ≤ 1024 := by omega
    have hr2 : r + 1 ≤ m.n.toNat := by omega
    obtain ⟨av, cv, rfl, -, -, -, rv, -⟩ := hv.shape
    obtain ⟨p0, p1, p2, p3, p4, p5⟩ := id hB
    have hv' : OwnL .i64 3 wr w.heap.size (.slice av m.n.toNat cv) (aftL m r) := by rw [← unhide HLA r]; exact hv
    have HV := hide hv'
    clear hv'
    rw [unhide HLA r]
    by_cases hlt : (r : Int) < most
    rotate_left
    · have HE : Hid ((r : Int) = most) := by show _ = _; omega
      clear hv hB hb rv hrd
      go_wp2
      go_ret2
      exact ⟨_, r, rfl, unhide HV, hr, .inl (unhide HE), unhide HN, unhide HB⟩
    have hlen : (aftL m r).length = m.n.toNat := unhide HLA r
    have h3 := rowsBy_any m a1 c1 a2 c2 av cv (aftL m r) wr (unhide HR) o1 (h1.below hb) (h2.below hb) hc2 rv (by rw [hlen]; omega) (fun j hj => aft_range (unhide HR) r hj)
    rw [hlen] at h3
    have H3 := hide h3
    clear h3 hlen hv hrd
    go_wp2_with fail
    refine (unhide H3).mono ?_
    rintro e w3 ⟨v3, rfl, hv3, hb3⟩
    obtain ⟨g, cap, rfl, -, -, hg1, hg2, hRows, -⟩ := hv3.pos (by omega)
    have b3 := bstep hb hb3
    have B3 := hB.below hb3
    have V3 := (unhide HV).grown hb3
    clear hv3 p0 p1 p2 p3 p4 p5
    obtain ⟨p0, p1, p2, p3, p4, p5⟩ := id B3
    go_wp2_with fail
    refine (grouped_any g cap m.n.toNat (Fb m (aftL m r)) w3 hRows (fun s hs => fit_next (unhide HR) o1 r hs) (by omega) (by omega) hg2).mono ?_
    rintro e w4 ⟨v4, rfl, hv4, hb4⟩
    rw [cl_next (unhide HR) r] at hv4
    have b4 := bstep b3 hb4
    have B4 := B3.below hb4
    have V4 := V3.grown hb4
    have hz3 := b3.size
    obtain ⟨av4, cv4, ev4, -, -, -, rv4, -⟩ := hv4.shape
    rw [unhide HLA (r + 1)] at ev4
    subst ev4
    have hv4 := hv4.mono (B' := w.heap.size) hz3
    obtain ⟨_, _, E4, -, -, -, rv5, -⟩ := V4.shape
    rw [unhide HLA r] at E4
    cases E4
    have h5 := equal_any av4 av cv4 cv (aftL m (r + 1)) (aftL m r) w4 rv4 rv5 (by rw [unhide HLA (r + 1)]; unfold maxLen; omega)
    rw [unhide HLA (r + 1), unhide HLA r] at h5
    have H5 := hide h5
    clear p0 p1 p2 p3 p4 p5 hRows hg1 hg2 h5 rv4 rv5 rv
    obtain ⟨p0, p1, p2, p3, p4, p5⟩ := id B4
    by_cases hst : Still m r
    · have te : decide (aftL m (r + 1) = aftL m r) = true := decide_eq_true ((aft_still r).2 hst)
      have HST := hide hst
      clear hst
      rw [te] at H5
      go_wp2_with fail
      refine (unhide H5).mono ?_
      rintro e w5 ⟨rfl, hb5⟩
      have b5 := bstep b4 hb5
      have V5 := V4.grown hb5
      have HV5 := hide V5
      clear V5 V4 V3 hv4
      go_wp2
      go_ret2
      exact ⟨_, r, rfl, unhide HV5, hr, .inr (unhide HST), unhide HN, b5⟩
    · have te : decide (aftL m (r + 1) = aftL m r) = false := decide_eq_false fun e => hst ((aft_still r).1 e)
      have HST := hide hst
      clear hst
      rw [te] at H5
      go_wp2_with fail
      refine (unhide H5).mono ?_
      rintro e w5 ⟨rfl, hb5⟩
      have b5 := bstep b4 hb5
      have B5 := B4.below hb5
      have V5 := hv4.grown hb5
      have HV5 := hide V5
      clear V5 V4 V3 hv4
      go_wp2
      go_roundw
      case rel =>
        refine ⟨r + 1, by go_num, by omega, hide (fun j hj => ?_), unhide HV5, B5, b5⟩
        by_cases c : j = r
        · subst c; exact unhide HST
        · exact unhide HN j (by omega)
      case measure => simp [intOf]; omega

end Go.Proofs.Ytoiogggibfmncaa

/-
  What the program's After and Classes return, for every table.
-/
namespace Go.Proofs.Ytoiogggibfmncaa
open Go.RowKit Go.Maps

/-- After, as the document has it: the classes and the error. -/
def afV (m : Mc) (n : Int) : List Int × Int := if (mchV m).2 ≠ 0 then ([], (mchV m).2) else if n < 0 then ([], 1) else (aftL m n.toNat, 0)
theorem afV_err {m : Mc} {n : Int} (h : (mchV m).2 ≠ 0) : afV m n = ([], (mchV m).2) := by unfold afV; rw [if_pos h]
theorem afV_arg {m : Mc} {n : Int} (h : (mchV m).2 = 0) (hn : n < 0) : afV m n = ([], 1) := by unfold afV; rw [if_neg (by simp [h]), if_pos hn]
theorem afV_ok {m : Mc} {n : Int} (h : (mchV m).2 = 0) (hn : 0 ≤ n) : afV m n = (aftL m n.toNat, 0) := by unfold afV; rw [if_neg (by simp [h]), if_neg (by omega)]
/-- Classes, as the document has it: the classes, the least length, the error. -/
def csV (m : Mc) : List Int × Int × Int := if (mchV m).2 ≠ 0 then ([], 0, (mchV m).2) else (aftL m (rdV m), (rdV m : Nat), 0)
theorem csV_err {m : Mc} (h : (mchV m).2 ≠ 0) : csV m = ([], 0, (mchV m).2) := by unfold csV; rw [if_pos h]
theorem csV_ok {m : Mc} (h : (mchV m).2 = 0) : csV m = (aftL m (rdV m), ((rdV m : Nat) : Int), 0) := by unfold csV; rw [if_neg (by simp [h])]
def AfPost (m : Mc) (n : Int) (w : World) (e : Ending) (w' : World) : Prop :=
  ∃ v, e = .returned (.tuple #[v, .int .i64 (afV m n).2]) ∧ OwnL .i64 3 w' w.heap.size v (afV m n).1 ∧ Below w.heap.size w w'
def CsPost (m : Mc) (w : World) (e : Ending) (w' : World) : Prop :=
  ∃ v, e = .returned (.tuple #[v, .int .i64 (csV m).2.1, .int .i64 (csV m).2.2]) ∧ OwnL .i64 3 w' w.heap.size v (csV m).1 ∧ Below w.heap.size w w'
theorem aft_most {m : Mc} (R : Right m) {r : Nat} {n : Int} (h0 : (r : Int) ≤ n) (h1 : (r : Int) = n ∨ Still m r) (h2 : ∀ j, j < r → ¬ Still m j) : aftL m n.toNat = aftL m r := by
  rcases h1 with h1 | h1
  · rw [show n.toNat = r by omega]
  · have e := rd_is R.n0 h1 h2
    rw [aft_end R (n := n.toNat) (by omega), e]
theorem rd_most {m : Mc} (R : Right m) {r : Nat} (h1 : (r : Int) = m.n - 1 ∨ Still m r) (h2 : ∀ j, j < r → ¬ Still m j) : rdV m = r := by
  rcases h1 with h1 | h1
  · have := rd_le R.n0 h2
    omega
  · exact rd_is R.n0 h1 h2

theorem wholly_any (m : Mc) (a1 : Option Addr) (c1 : Nat) (a2 : Option Addr) (c2 : Nat) (w : World) (R : Right m) (o1 : m.o ≤ 64) (h1 : RdL .i64 w a1 m.nx) (h2 : RdL .i64 w a2 m.out) (hc2 : m.out.length ≤ c2) :
    Calls Try.prog 32 #[mval m a1 c1 a2 c2] w fun e w' => ∃ v, e = .returned (.tuple #[v, .int .i64 (rdV m : Nat)]) ∧ OwnL .i64 3 w' w.heap.size v (aftL m (rdV m)) ∧ Below w.heap.size w w' := by
  unfold mval
  have b0 := ballo w (.cells #[.int .i64 m.kind, .int .i64 m.k, .int .i64 m.o, .int .i64 m.n, .slice a1 m.nx.length c1, .slice a2 m.out.length c2] 24)
  have n0 := R.n0
  have n1 := R.n1
  have HR := hide R
  clear R
  go_enter Try.func32, Try.ntmps32
  go_wp2_with fail
  refine (split_any m a1 c1 a2 c2 (m.n - 1) _ (unhide HR) o1 (h1.below b0) (h2.below b0) hc2 (by omega) (by omega)).mono ?_
  rintro e w1 ⟨v, r, rfl, hv, hr1, hr2, hr3, hb1⟩
  have er := rd_most (unhide HR) hr2 hr3
  have HE := hide er
  have b1 := bstep b0 hb1
  have hz := b0.size
  have HV := hide (hv.mono hz)
  clear hr1 hr2 hr3 er hv
  go_wp2
  go_ret2
  exact ⟨v, by rw [unhide HE]; rfl, by rw [unhide HE]; exact unhide HV, b1⟩

theorem after_any (m : Mc) (a1 : Option Addr) (c1 : Nat) (a2 : Option Addr) (c2 : Nat) (n : Int) (w : World) (h1 : RdL .i64 w a1 m.nx) (h2 : RdL .i64 w a2 m.out) (hc2 : m.out.length ≤ c2) (hn : m.nx.length ≤ maxLen) (ho : m.out.length ≤ maxLen) (hf : n ≤ 9223372036854775807) :
    Calls Try.prog 12 #[mval m a1 c1 a2 c2, .int .i64 n] w fun e w' => AfPost m n w e w' := by
  unfold mval
  have b0 := ballo w (.cells #[.int .i64 m.kind, .int .i64 m.k, .int .i64 m.o, .int .i64 m.n, .slice a1 m.nx.length c1, .slice a2 m.out.length c2] 24)
  have B0 := Box.alloc w m a1 c1 a2 c2 24
  by_cases hz : (mchV m).2 = 0
  rotate_left
  · have H := hide (afV_err (n := n) hz)
    have tz := ne_bne hz
    clear hz
    go_enter Try.func12, Try.ntmps12
    go_wp2_with fail
    refine (mcheck_any m a1 c1 a2 c2 _ (h1.below b0) (h2.below b0) hn ho).mono ?_
    rintro e w1 ⟨rfl, hb1⟩
    have b1 := bstep b0 hb1
    clear hb1 h1 h2 B0 b0
    go_wp2
    go_ret2
    exact ⟨.slice none 0 0, by rw [unhide H]; rfl, by rw [unhide H]; exact OwnL.nil _ _ _ _, b1⟩
  have F := full_of hz
  have HF := hide F
  have HZ := hide hz
  by_cases hneg : n < 0
  · have H := hide (afV_arg (n := n) hz hneg)
    clear hz F
    go_enter Try.func12, Try.ntmps12
    go_wp2_with fail
    refine (mcheck_any m a1 c1 a2 c2 _ (h1.below b0) (h2.below b0) hn ho).mono ?_
    rw [unhide HZ]
    rintro e w1 ⟨rfl, hb1⟩
    have b1 := bstep b0 hb1
    clear hb1 h1 h2 B0 b0
    go_wp2
    go_ret2
    exact ⟨.slice none 0 0, by rw [unhide H]; rfl, by rw [unhide H]; exact OwnL.nil _ _ _ _, b1⟩
  have n0 : 0 ≤ n := by omega
  have H := hide (afV_ok (n := n) hz n0)
  clear hz F
  go_enter Try.func12, Try.ntmps12
  go_wp2_with fail
  refine (mcheck_any m a1 c1 a2 c2 _ (h1.below b0) (h2.below b0) hn ho).mono ?_
  rw [unhide HZ]
  rintro e w1 ⟨rfl, hb1⟩
  have b1 := bstep b0 hb1
  obtain ⟨p0, p1, p2, p3, p4, p5⟩ := B0.below hb1
  clear hb1 B0 b0
  go_wp2_with fail
  refine (split_any m a1 c1 a2 c2 n w1 (unhide HF).r (unhide HF).o1 (h1.below b1) (h2.below b1) hc2 n0 hf).mono ?_
  rintro e w2 ⟨v, r, rfl, hv, hr1, hr2, hr3, hb2⟩
  have HE := hide (aft_most (unhide HF).r hr1 hr2 hr3)
  have b2 := bstep b1 hb2
  have HV := hide (hv.mono b1.size)
  clear hr1 hr2 hr3 hv
  go_wp2
  go_ret2
  exact ⟨v, by rw [unhide H]; rfl, by rw [unhide H, unhide HE]; exact unhide HV, b2⟩

theorem classes_any (m : Mc) (a1 : Option Addr) (c1 : Nat) (a2 : Option Addr) (c2 : Nat) (w : World) (h1 : RdL .i64 w a1 m.nx) (h2 : RdL .i64 w a2 m.out) (hc2 : m.out.length ≤ c2) (hn : m.nx.length ≤ maxLen) (ho : m.out.length ≤ maxLen) :
    Calls Try.prog 17 #[mval m a1 c1 a2 c2] w fun e w' => CsPost m w e w' := by
  unfold mval
  have b0 := ballo w (.cells #[.int .i64 m.kind, .int .i64 m.k, .int .i64 m.o, .int .i64 m.n, .slice a1 m.nx.length c1, .slice a2 m.out.length c2] 24)
  have B0 := Box.alloc w m a1 c1 a2 c2 24
  by_cases hz : (mchV m).2 = 0
  rotate_left
  · have H := hide (csV_err hz)
    have tz := ne_bne hz
    clear hz
    go_enter Try.func17, Try.ntmps17
    go_wp2_with fail
    refine (mcheck_any m a1 c1 a2 c2 _ (h1.below b0) (h2.below b0) hn ho).mono ?_
    rintro e w1 ⟨rfl, hb1⟩
    have b1 := bstep b0 hb1
    clear hb1 h1 h2 B0 b0
    go_wp2
    go_ret3
    exact ⟨.slice none 0 0, by rw [unhide H]; rfl, by rw [unhide H]; exact OwnL.nil _ _ _ _, b1⟩
  have HF := hide (full_of hz)
  have HZ := hide hz
  have H := hide (csV_ok hz)
  clear hz
  go_enter Try.func17, Try.ntmps17
  go_wp2_with fail
  refine (mcheck_any m a1 c1 a2 c2 _ (h1.below b0) (h2.below b0) hn ho).mono ?_
  rw [unhide HZ]
  rintro e w1 ⟨rfl, hb1⟩
  have b1 := bstep b0 hb1
  obtain ⟨p0, p1, p2, p3, p4, p5⟩ := B0.below hb1
  clear hb1 B0 b0
  go_wp2_with fail
  refine (wholly_any m a1 c1 a2 c2 w1 (unhide HF).r (unhide HF).o1 (h1.below b1) (h2.below b1) hc2).mono ?_
  rintro e w2 ⟨v, rfl, hv, hb2⟩
  have b2 := bstep b1 hb2
  have HV := hide (hv.mono b1.size)
  clear hv
  go_wp2
  go_ret3
  exact ⟨v, by rw [unhide H]; rfl, by rw [unhide H]; exact unhide HV, b2⟩

end Go.Proofs.Ytoiogggibfmncaa
